/- The law EvalOrder walked. -/
import Derived.Test.YtpidikbhjiaogaaWa
namespace Go.Proofs.Ytpidikbhjiaogaa
open Go.RowKit

theorem rdI_of_own {w : World} {B : Nat} {v : Value} {cs : List CM} (h : w.ownsRow B 41 3 v cs.length (flat cs)) : RdI w v cs := by
  have hr := rd_of_inn (Inn.of_own h)
  obtain ⟨_, ⟨rfl, hn⟩ | ⟨g, cap, cur, rfl, _⟩⟩ := h
  · exact Or.inl ⟨rfl, List.eq_nil_of_length_eq_zero hn⟩
  · exact Or.inr ⟨_, _, rfl, hr⟩
theorem num_of {v : VA} (h : OkV v) (hk : v.kd = 1) : v = numV v.a ∧ inL v.a = true := by
  obtain ⟨k, a, b⟩ := v
  change k = 1 at hk
  subst hk
  have hb : b = 0 := of_decide_eq_true h.1
  subst hb
  exact ⟨rfl, h.2⟩
theorem order_facts (n m : Int) : ∃ l18 l16 l20 l19 : Int, outW (joinE 18 (numV n) (numV m)) = .returned (.tuple #[.agg #[.int .i64 2, .int .i64 l18, .int .i64 0], .int .i64 0]) ∧ outW (joinE 16 (numV n) (numV m)) = .returned (.tuple #[.agg #[.int .i64 2, .int .i64 l16, .int .i64 0], .int .i64 0]) ∧ outW (joinE 20 (numV n) (numV m)) = .returned (.tuple #[.agg #[.int .i64 2, .int .i64 l20, .int .i64 0], .int .i64 0]) ∧ outW (joinE 19 (numV n) (numV m)) = .returned (.tuple #[.agg #[.int .i64 2, .int .i64 l19, .int .i64 0], .int .i64 0]) ∧
    0 ≤ l18 ∧ 0 ≤ l16 ∧ 0 ≤ l20 ∧ 0 ≤ l19 ∧ l18 + l16 + l20 = 1 ∧ l19 + l20 = 1 := by
  refine ⟨if decide (n < m) = true then 1 else 0, if decide (n = m ∧ (0 : Int) = 0) = true then 1 else 0, if decide (m < n) = true then 1 else 0, if decide (n ≤ m) = true then 1 else 0, rfl, rfl, rfl, rfl, ?_⟩
  simp only [decide_eq_true_eq, and_true]
  repeat' split
  all_goals omega
theorem div_facts (n m : Int) (hn : inL n = true) : ∃ qk qa qb qe mk ma mb me : Int, outW (joinE 14 (numV n) (numV m)) = .returned (.tuple #[.agg #[.int .i64 qk, .int .i64 qa, .int .i64 qb], .int .i64 qe]) ∧ outW (joinE 15 (numV n) (numV m)) = .returned (.tuple #[.agg #[.int .i64 mk, .int .i64 ma, .int .i64 mb], .int .i64 me]) ∧
    ((m = 0 ∧ qe = 6 ∧ me = 6) ∨ (m ≠ 0 ∧ qe = 7 ∧ me = 0) ∨ (m ≠ 0 ∧ qe = 0 ∧ me = 0 ∧ wrap64 (qa * m) = qa * m ∧ wrap64 (qa * m + ma) = n ∧ (ma = 0 ∨ (ma < 0 ↔ n < 0)))) := by
  rw [join_nn n m (by decide) (by decide), join_nn n m (by decide) (by decide)]
  by_cases hm : m = 0
  · subst hm
    exact ⟨0, 0, 0, 6, 0, 0, 0, 6, rfl, rfl, Or.inl ⟨rfl, rfl, rfl⟩⟩
  · rw [show numbersE 14 n m = numE (n.tdiv m) from if_neg hm, show numbersE 15 n m = (numV (n.tmod m), 0) from if_neg hm]
    by_cases hq : inL (n.tdiv m) = true
    · refine ⟨1, n.tdiv m, 0, 0, 1, n.tmod m, 0, 0, by unfold numE; rw [if_pos hq]; rfl, rfl, Or.inr (Or.inr ⟨hm, rfl, rfl, ?_⟩)⟩
      have h0 := Int.mul_tdiv_add_tmod n m
      rw [Int.mul_comm] at h0
      have h1 := Int.natAbs_tmod n m
      have h2 : n.natAbs % m.natAbs ≤ n.natAbs := Nat.mod_le _ _
      have h3 : 0 ≤ n → 0 ≤ n.tmod m := fun h => Int.tmod_nonneg m h
      have h4 : n < 0 → n.tmod m ≤ 0 := fun h => by
        have := Int.tmod_nonneg (-m) (a := -n) (by omega)
        rw [Int.neg_tmod, Int.tmod_neg] at this; omega
      rw [inL_iff] at hn
      generalize n.tdiv m * m = p at *
      generalize n.tmod m = r at *
      refine ⟨wrap_id (by omega), ?_, by omega⟩
      rw [h0]; exact wrap_id hn
    · exact ⟨0, 0, 0, 7, 1, n.tmod m, 0, 0, by unfold numE; rw [if_neg hq]; rfl, rfl, Or.inr (Or.inl ⟨hm, rfl, rfl⟩)⟩
theorem wrap_len {n m : Nat} (h1 : n ≤ 4398046511104) (h2 : m ≤ 4398046511104) : wrap64 ((n : Int) + m) = (n : Int) + m ∧ wrap64 (2 * ((n : Int) + m)) = 2 * ((n : Int) + m) := by
  obtain ⟨p, hp⟩ : ∃ p : Int, p = (n : Int) + m := ⟨_, rfl⟩
  rw [← hp]
  have h3 : 0 ≤ p ∧ p ≤ 8796093022208 := by omega
  clear hp h1 h2
  exact ⟨wrap_id (by omega), wrap_id (by omega)⟩
theorem idx18 (W : World) : (Instr.index 46 (.agg #[.int .i64 18, .int .i64 16, .int .i64 20]) (.int .i64 0)).run Try.prog W = .ok (.int .i64 18) W := by kernel_rfl
theorem idx16 (W : World) : (Instr.index 46 (.agg #[.int .i64 18, .int .i64 16, .int .i64 20]) (.int .i64 1)).run Try.prog W = .ok (.int .i64 16) W := by kernel_rfl
theorem idx20 (W : World) : (Instr.index 46 (.agg #[.int .i64 18, .int .i64 16, .int .i64 20]) (.int .i64 2)).run Try.prog W = .ok (.int .i64 20) W := by kernel_rfl
def sN (s1 s2 : Int) (k : Nat) : Int := if k = 0 then 0 else if k = 1 then s1 else if k = 2 then s2 else 1

set_option maxRecDepth 100000 in
set_option maxHeartbeats 16000000 in
theorem evalOrder_law (va vb vv xv sv : Value) (a b : List CM) (vs : List VM) (xs : List VA) (ss : List (List UInt8)) (w : World) (hA : RdI w va a) (hla : a.length * 32 ≤ 140737488355328) (hB : RdI w vb b) (hlb : b.length * 32 ≤ 140737488355328) (hV : RdV w vv vs) (hvl : vs.length * 64 ≤ 140737488355328) (hX : RdX w xv xs) (hxl : xs.length * 24 ≤ 140737488355328) (hS : RdW w sv ss) (hsl : ss.length * 16 ≤ 140737488355328) (hi : ∀ x ∈ xs, inL x.a = true) :
    Calls Try.prog 7 #[va, vb, .agg #[vv, xv, sv]] w fun e w' => e = .returned (.bool true) ∧ Below w.heap.size w w' := by
  obtain ⟨V, vc, rfl⟩ := hV.form
  obtain ⟨X, xc, rfl⟩ := hX.form
  obtain ⟨S, sc, rfl⟩ := hS.form
  obtain ⟨A, ca, rfl⟩ := hA.inn.form
  obtain ⟨B, cb, rfl⟩ := hB.inn.form
  have hb0 : Below w.heap.size w (w.alloc (.cells #[.slice V vs.length vc, .slice X xs.length xc, .slice S ss.length sc] 31)) := (Below.refl _ _).alloc (Nat.le_refl _) _
  have hg0 : (w.alloc (.cells #[.slice V vs.length vc, .slice X xs.length xc, .slice S ss.length sc] 31)).heap[w.heap.size]? = some (.cells #[.slice V vs.length vc, .slice X xs.length xc, .slice S ss.length sc] 31 (0, 0)) := heap_at rfl _ _
  have hof := fun (l : List CM) (v : Value) W (hR : RdI W v l) (hl : l.length * 32 ≤ 140737488355328) (hb : Below w.heap.size w W) => of5_any v (.slice V vs.length vc) (.slice X xs.length xc) (.slice S ss.length sc) l vs xs ss W hR hl (hV.below hb) hvl (hX.below hb) hxl (hS.below hb) hsl hi
  have hoa := fun W hb => hof a (.slice A a.length ca) W (hA.below hb) hla hb
  have hob := fun W hb => hof b (.slice B b.length cb) W (hB.below hb) hlb hb
  have hjn := fun (hl : (a.length + b.length + 1) * 32 ≤ 140737488355328) (o : Int) W (hb : Below w.heap.size w W) => join_any (.slice A a.length ca) (.slice B b.length cb) a b o W (hA.below hb) hla (hB.below hb) hlb hl
  have hxk := fun (h : (evP vs xs ss a).2 = 0) => ev_ok (ss := ss) hi h
  have hyk := fun (h : (evP vs xs ss b).2 = 0) => ev_ok (ss := ss) hi h
  have hej := fun (o : Int) (h1 : rightB a = true) (h2 : rightB b = true) (h3 : worldB vs xs = true) (hl : a.length + b.length + 1 ≤ 32) (ho : 11 ≤ o ∧ o ≤ 23) => ev_join (ss := ss) h1 h2 h3 hi hl ho
  generalize hp : evP vs xs ss a = p at *
  generalize hq : evP vs xs ss b = q at *
  obtain ⟨⟨xk, xa, xb⟩, xe⟩ := p
  obtain ⟨⟨yk, ya, yb⟩, ye⟩ := q
  have HOA : Hid (∀ W, Below w.heap.size w W → Calls Try.prog 12 #[.slice A a.length ca, .agg #[.slice V vs.length vc, .slice X xs.length xc, .slice S ss.length sc]] W fun e w' => e = .returned (.tuple #[.agg #[.int .i64 xk, .int .i64 xa, .int .i64 xb], .int .i64 xe]) ∧ Below W.heap.size W w') := hoa
  have HOB : Hid (∀ W, Below w.heap.size w W → Calls Try.prog 12 #[.slice B b.length cb, .agg #[.slice V vs.length vc, .slice X xs.length xc, .slice S ss.length sc]] W fun e w' => e = .returned (.tuple #[.agg #[.int .i64 yk, .int .i64 ya, .int .i64 yb], .int .i64 ye]) ∧ Below W.heap.size W w') := hob
  have HOF := Lib.hid hof; have HJN0 := Lib.hid hjn; have HXK := Lib.hid hxk; have HYK := Lib.hid hyk; have HEJ := Lib.hid hej
  have HB0 := Lib.hid hb0; have HG0 := Lib.hid hg0
  clear hof hoa hob hjn hxk hyk hej hb0 hg0 hA hB hV hX hS hi hp hq
  go_enter Try.func7, Try.ntmps7
  go_wp2_with fail
  refine (HOA.out _ HB0.out).mono ?_
  rintro e w1 ⟨rfl, hb1⟩
  have hg1 := heap_up ((hb1.block _ (by simp)).trans HG0.out) (.cells #[.int .i64 xk, .int .i64 xa, .int .i64 xb] 23)
  obtain ⟨g0, g1, g2, _⟩ := at3 hg1
  have x0 : (w1.alloc (.cells #[.int .i64 xk, .int .i64 xa, .int .i64 xb] 23)).cell? ⟨w1.heap.size, 0, none⟩ = some (.int .i64 xk) := new_cell rfl rfl
  have x1 : (w1.alloc (.cells #[.int .i64 xk, .int .i64 xa, .int .i64 xb] 23)).cell? ⟨w1.heap.size, 1, none⟩ = some (.int .i64 xa) := new_cell rfl rfl
  have HB1 := Lib.hid ((HB0.out.trans (hb1.mono HB0.out.size)).alloc (HB0.out.trans (hb1.mono HB0.out.size)).size (.cells #[.int .i64 xk, .int .i64 xa, .int .i64 xb] 23))
  have hz1 : w.heap.size + 1 ≤ w1.heap.size := by have := hb1.size; simpa using this
  clear hb1
  go_wp2_with fail
  refine (HOB.out _ HB1.out).mono ?_
  rintro e w2 ⟨rfl, hb2⟩
  have x0' := old_cell (o := (.cells #[.int .i64 yk, .int .i64 ya, .int .i64 yb] 23)) ((hb2.cell (cell_lt x0)).trans x0)
  have x1' := old_cell (o := (.cells #[.int .i64 yk, .int .i64 ya, .int .i64 yb] 23)) ((hb2.cell (cell_lt x1)).trans x1)
  have hg2 := heap_up ((hb2.block _ (by simp; omega)).trans hg1) (.cells #[.int .i64 yk, .int .i64 ya, .int .i64 yb] 23)
  have y0 : (w2.alloc (.cells #[.int .i64 yk, .int .i64 ya, .int .i64 yb] 23)).cell? ⟨w2.heap.size, 0, none⟩ = some (.int .i64 yk) := new_cell rfl rfl
  have y1 : (w2.alloc (.cells #[.int .i64 yk, .int .i64 ya, .int .i64 yb] 23)).cell? ⟨w2.heap.size, 1, none⟩ = some (.int .i64 ya) := new_cell rfl rfl
  have HB2 := Lib.hid ((HB1.out.trans (hb2.mono HB1.out.size)).alloc (HB1.out.trans (hb2.mono HB1.out.size)).size (.cells #[.int .i64 yk, .int .i64 ya, .int .i64 yb] 23))
  have hz2 : w.heap.size < w2.heap.size := by have := hb2.size; simp at this; omega
  clear hb2 x0 x1 hg1 g0 g1 g2
  go_wp2_with fail
  refine (wakes5_any _).mono ?_
  rintro e w3 ⟨rfl, hb3⟩
  have hx0 := (hb3.cell (cell_lt x0')).trans x0'
  have hx1 := (hb3.cell (cell_lt x1')).trans x1'
  have hy0 := (hb3.cell (cell_lt y0)).trans y0
  have hy1 := (hb3.cell (cell_lt y1)).trans y1
  have hg3 := (hb3.block _ (by simp; omega)).trans hg2
  obtain ⟨g0, g1, g2, _⟩ := at3 hg3
  have HW3 := Lib.hid (HB2.out.trans (hb3.mono HB2.out.size))
  clear hb3 x0' x1' y0 y1 hg2 hg3
  by_cases he : xe = 0
  rotate_left
  · as_aux_lemma =>
    have t1 := int_ne he
    go_wp2
    go_ret
    exact ⟨rfl, HW3.out⟩
  by_cases hf : ye = 0
  rotate_left
  · as_aux_lemma =>
    have t2 := int_ne hf
    subst he
    go_wp2
    go_ret
    exact ⟨rfl, HW3.out⟩
  by_cases hk : xk = 1
  rotate_left
  · as_aux_lemma =>
    have t3 := int_ne hk
    subst he hf
    go_wp2
    go_ret
    exact ⟨rfl, HW3.out⟩
  by_cases hk2 : yk = 1
  rotate_left
  · as_aux_lemma =>
    have t4 := int_ne hk2
    subst he hf hk
    go_wp2
    go_ret
    exact ⟨rfl, HW3.out⟩
  obtain ⟨hwa, hwb⟩ := wrap_len (n := a.length) (m := b.length) (by omega) (by omega)
  obtain ⟨hra, hwo, hox⟩ := HXK.out he
  obtain ⟨hrb, _, hoy⟩ := HYK.out hf
  obtain ⟨hxn, hxl'⟩ := num_of hox hk
  obtain ⟨hyn, _⟩ := num_of hoy hk2
  subst he hf hk hk2
  by_cases hlen : 32 ≤ 2 * ((a.length : Int) + b.length)
  · as_aux_lemma =>
    go_wp2
    go_ret
    exact ⟨rfl, HW3.out⟩
  have hJ : ∀ (o : Int), 11 ≤ o ∧ o ≤ 23 → evP vs xs ss (a ++ b ++ [opC o]) = joinE o (numV xa) (numV ya) := by
    intro o ho
    rw [HEJ.out o hra hrb hwo (by omega) ho, if_neg (by simp), if_neg (by simp)]
    show joinE o _ _ = _
    rw [hxn, hyn]
  have HJ : Hid (∀ (o : Int) (v : Value) (p : Ending) (W : World) (ho : 11 ≤ o ∧ o ≤ 23), Below w.heap.size w W → outW (joinE o (numV xa) (numV ya)) = p → W.ownsRow 0 41 3 v (a ++ b ++ [opC o]).length (flat (a ++ b ++ [opC o])) → Calls Try.prog 12 #[v, .agg #[.slice V vs.length vc, .slice X xs.length xc, .slice S ss.length sc]] W fun e w' => e = p ∧ Below W.heap.size W w') := by
    intro o v p W ho hb hp hrow
    have h := HOF.out (a ++ b ++ [opC o]) v W (rdI_of_own hrow) (by simp only [List.length_append, List.length_cons, List.length_nil]; omega) hb
    rw [hJ o ho, hp] at h
    exact h
  have HJN := Lib.hid (HJN0.out (by omega))
  obtain ⟨l18, l16, l20, l19, e18, e16, e20, e19, hl⟩ := order_facts xa ya
  obtain ⟨qk, qa, qb, qe, mk, ma, mb, me, e14, e15, hqm⟩ := div_facts xa ya hxl'
  have HE18 := Lib.hid e18; have HE16 := Lib.hid e16; have HE20 := Lib.hid e20; have HE19 := Lib.hid e19; have HE14 := Lib.hid e14; have HE15 := Lib.hid e15
  have HQM := Lib.hid hqm
  obtain ⟨s1, hs1⟩ : ∃ s, s = l18 := ⟨_, rfl⟩
  obtain ⟨s2, hs2⟩ : ∃ s, s = l18 + l16 := ⟨_, rfl⟩
  have hw1 : wrap64 l18 = s1 := by rw [hs1]; exact wrap_id (by omega)
  have hw2 : wrap64 (s1 + l16) = s2 := by rw [hs1, hs2]; exact wrap_id (by omega)
  have hw3 : wrap64 (s2 + l20) = 1 := by rw [hs2, hl.2.2.2.2.1]; exact wrap_id (by decide)
  have hw4 : wrap64 (l19 + l20) = 1 := by rw [hl.2.2.2.2.2]; exact wrap_id (by decide)
  have hlen' : ¬ (32 : Int) ≤ 2 * ((a.length : Int) + b.length) := hlen
  clear hJ HEJ HOF HXK HYK HJN0 HOA HOB hox hoy hxn hyn hra hrb hwo e18 e16 e20 e19 e14 e15 hqm hl hs1 hs2 HB1 HB2 HB0 HG0
  go_wp2
  go_loopw [11, 13, 14, 15, 64] (fun x11 _ _ _ x64 wr => ∃ k : Nat, k ≤ 3 ∧ x64 = .int .i64 (k : Int) ∧ x11 = .int .i64 (sN s1 s2 k) ∧ Below w3.heap.size w3 wr) (fun _ _ _ _ x _ => 3 - (intOf x).toNat)
  case atStart => exact ⟨0, by omega, rfl, rfl, Below.refl _ _⟩
  case round =>
    obtain ⟨k, hk, rfl, rfl, hbr⟩ := hrel
    have HBR := Lib.hid hbr
    clear hbr
    rcases (show k = 0 ∨ k = 1 ∨ k = 2 ∨ k = 3 by omega) with rfl | rfl | rfl | rfl
    · as_aux_lemma =>
      rw [show sN s1 s2 0 = 0 from rfl, show ((0 : Nat) : Int) = 0 from rfl]
      have hix := idx18
      go_wp2_with fail
      refine Oz.region_own' 172 [Ow.eqR (.slice A a.length ca), Ow.eqR (.slice B b.length cb), Ow.eqR (.int .i64 18), fun v w' => w'.ownsRow 0 41 3 v (a ++ b ++ [opC 18]).length (flat (a ++ b ++ [opC 18])), Ow.eqR (.agg #[.slice V vs.length vc, .slice X xs.length xc, .slice S ss.length sc]), Ow.eqR (.tuple #[.agg #[.int .i64 2, .int .i64 l18, .int .i64 0], .int .i64 0]), Ow.eqR (.tuple #[.agg #[.int .i64 2, .int .i64 l18, .int .i64 0], .int .i64 0]), Ow.eqR (.agg #[.int .i64 2, .int .i64 l18, .int .i64 0]), Ow.eqR (.int .i64 0), Oz.BoxR (0) 23 #[.int .i64 0, .int .i64 0, .int .i64 0], Oz.BoxR (0) 23 #[.int .i64 2, .int .i64 l18, .int .i64 0], Ow.eqR (.int .i64 0)] [false, false, false, true, false, false, false, false, false, true, true, false] [none, none, none, none, none, none, none, none, none, none, some 9, none] (by kernel_rfl) rfl (by kernel_rfl) ⟨Oz.keeps_eq _ _, Oz.keeps_eq _ _, Oz.keeps_eq _ _, Oz.keeps_own _ _ _ _ _, Oz.keeps_eq _ _, Oz.keeps_eq _ _, Oz.keeps_eq _ _, Oz.keeps_eq _ _, Oz.keeps_eq _ _, Oz.keeps_box _ _ _, Oz.keeps_box _ _ _, Oz.keeps_eq _ _, trivial⟩ ?_
      apply Oz.walk_cons rfl
      · intro w1 hb hu hd ho K hK
        clear hu hd ho
        go_simp
        exact hK _ _ (Oz.good_same rfl rfl rfl)
      · intro v; simp only [Act.put, List.setIfInBounds_toArray, List.set_cons_succ, List.set_cons_zero]; exact rfl
      · intro v; exact (rfl : _ = ([v] : List Value))
      intro x68
      apply Oz.walk_cons rfl
      · intro w1 hb hu hd ho K hK
        clear hu hd ho
        go_simp
        exact hK _ _ (Oz.good_same rfl rfl rfl)
      · intro v; simp only [Act.put, List.setIfInBounds_toArray, List.set_cons_succ, List.set_cons_zero]; exact rfl
      · intro v; exact (rfl : _ = ([x68, v] : List Value))
      intro x69
      apply Oz.walk_cons rfl
      · intro w1 hb hu hd ho K hK
        clear hu hd ho
        go_simp
        exact hK _ _ (Oz.good_same rfl rfl rfl)
      · intro v; simp only [Act.put, List.setIfInBounds_toArray, List.set_cons_succ, List.set_cons_zero]; exact rfl
      · intro v; exact (rfl : _ = ([x68, x69, v] : List Value))
      intro x70
      apply Oz.walk_cons rfl
      · intro w1 hb hu hd ho K hK
        have e68 : _ = x68 := Eq.symm (hd 0 (by kernel_rfl))
        subst e68
        have e69 : _ = x69 := Eq.symm (hd 1 (by kernel_rfl))
        subst e69
        have e70 : _ = x70 := Eq.symm (hd 2 (by kernel_rfl))
        subst e70
        have hz := hb.size
        have hbw : Below w.heap.size w w1 := HW3.out.trans ((HBR.out.drew.trans (hb.mono HBR.out.size)).mono HW3.out.size)
        clear hu hd ho
        go_simp
        refine (HJN.out 18 w1 hbw).mono ?_
        rintro e w2 ⟨v, rfl, hown, hb2⟩
        go_simp
        exact hK _ _ (Oz.good_new rfl hz hb2 (own_low hown (Nat.zero_le _)) (fun g hg => hown.lt g ((Oz.own_slice hown).symm.trans hg)))
      · intro v; simp only [Act.put, List.setIfInBounds_toArray, List.set_cons_succ, List.set_cons_zero]; exact rfl
      · intro v; exact (rfl : _ = ([x68, x69, x70, v] : List Value))
      intro x71
      apply Oz.walk_cons rfl
      · intro w1 hb hu hd ho K hK
        clear hu hd ho
        have hfull : Below w3.heap.size w3 w1 := HBR.out.drew.trans (hb.mono HBR.out.size)
        have c0 := (hfull.cell (cell_lt g0)).trans g0
        have c1 := (hfull.cell (cell_lt g1)).trans g1
        have c2 := (hfull.cell (cell_lt g2)).trans g2
        clear hfull
        go_simp
        exact hK _ _ (Oz.good_same rfl rfl rfl)
      · intro v; simp only [Act.put, List.setIfInBounds_toArray, List.set_cons_succ, List.set_cons_zero]; exact rfl
      · intro v; exact (rfl : _ = ([x68, x69, x70, x71, v] : List Value))
      intro x72
      apply Oz.walk_cons rfl
      · intro w1 hb hu hd ho K hK
        have h71 := hd 3 (by kernel_rfl)
        have e72 : _ = x72 := Eq.symm (hd 4 (by kernel_rfl))
        subst e72
        have hbw : Below w.heap.size w w1 := HW3.out.trans ((HBR.out.drew.trans (hb.mono HBR.out.size)).mono HW3.out.size)
        clear hu hd ho
        go_simp
        refine (HJ.out 18 _ _ w1 (by decide) hbw HE18.out h71).mono ?_
        rintro e w2 ⟨rfl, hb2⟩
        go_simp
        exact hK _ _ (Oz.good_below rfl rfl hb2 rfl)
      · intro v; simp only [Act.put, List.setIfInBounds_toArray, List.set_cons_succ, List.set_cons_zero]; exact rfl
      · intro v; exact (rfl : _ = ([x68, x69, x70, x71, x72, v] : List Value))
      intro x73
      apply Oz.walk_cons rfl
      · intro w1 hb hu hd ho K hK
        have e73 : _ = x73 := Eq.symm (hd 5 (by kernel_rfl))
        subst e73
        clear hu hd ho
        go_simp
        exact hK _ _ (Oz.good_same rfl rfl rfl)
      · intro v; simp only [Act.put, List.setIfInBounds_toArray, List.set_cons_succ, List.set_cons_zero]; exact rfl
      · intro v; exact (rfl : _ = ([x68, x69, x70, x71, x72, x73, v] : List Value))
      intro x67
      apply Oz.walk_cons rfl
      · intro w1 hb hu hd ho K hK
        have e67 : _ = x67 := Eq.symm (hd 6 (by kernel_rfl))
        subst e67
        clear hu hd ho
        go_simp
        exact hK _ _ (Oz.good_same rfl rfl rfl)
      · intro v; simp only [Act.put, List.setIfInBounds_toArray, List.set_cons_succ, List.set_cons_zero]; exact rfl
      · intro v; exact (rfl : _ = ([x68, x69, x70, x71, x72, x73, x67, v] : List Value))
      intro x74
      apply Oz.walk_cons rfl
      · intro w1 hb hu hd ho K hK
        have e67 : _ = x67 := Eq.symm (hd 6 (by kernel_rfl))
        subst e67
        clear hu hd ho
        go_simp
        exact hK _ _ (Oz.good_same rfl rfl rfl)
      · intro v; simp only [Act.put, List.setIfInBounds_toArray, List.set_cons_succ, List.set_cons_zero]; exact rfl
      · intro v; exact (rfl : _ = ([x68, x69, x70, x71, x72, x73, x67, x74, v] : List Value))
      intro x75
      apply Oz.walk_cons rfl
      · intro w1 hb hu hd ho K hK
        have hz := hb.size
        clear hu hd ho
        go_simp
        exact hK _ _ (Oz.good_box (b0 := 0) rfl (Nat.zero_le _) hz rfl)
      · intro v; simp only [Act.put, List.setIfInBounds_toArray, List.set_cons_succ, List.set_cons_zero]; exact rfl
      · intro v; exact (rfl : _ = ([x68, x69, x70, x71, x72, x73, x67, x74, x75, v] : List Value))
      intro x14
      apply Oz.walk_cons rfl
      · intro w1 hb hu hd ho K hK
        have h14 := hd 9 (by kernel_rfl)
        have e74 : _ = x74 := Eq.symm (hd 7 (by kernel_rfl))
        subst e74
        have hz := hb.size
        have hoo := ho 9 (by kernel_rfl) rfl
        obtain ⟨b, rfl, hb0, hh⟩ := h14
        have dq0 : w1.cell? ⟨b, 0, none⟩ = some (.int .i64 0) := by simp [World.cell?, hh]
        have fq0 : w1.frozen? ⟨b, 0, none⟩ = false := by simp [World.frozen?, hh]
        have dq1 : w1.cell? ⟨b, 1, none⟩ = some (.int .i64 0) := by simp [World.cell?, hh]
        have fq1 : w1.frozen? ⟨b, 1, none⟩ = false := by simp [World.frozen?, hh]
        have dq2 : w1.cell? ⟨b, 2, none⟩ = some (.int .i64 0) := by simp [World.cell?, hh]
        have fq2 : w1.frozen? ⟨b, 2, none⟩ = false := by simp [World.frozen?, hh]
        have kq0 := heap_setCell_same _ _ 0 _ _ (.int .i64 2) hh
        have kq1 := heap_setCell_same _ _ 1 _ _ (.int .i64 l18) kq0
        have kq2 := heap_setCell_same _ _ 2 _ _ (.int .i64 0) kq1
        clear hu hd ho
        go_simp
        exact hK undef _ (Oz.good_put (k := 9) (cs := #[.int .i64 2, .int .i64 l18, .int .i64 0]) rfl rfl hb0 hz (Oz.setAll_grown b [.int .i64 2, .int .i64 l18, .int .i64 0] 0 w1) rfl kq2 hoo)
      · intro v; exact rfl
      · intro v; exact (rfl : _ = ([x68, x69, x70, x71, x72, x73, x67, x74, x75, x14, x14] : List Value))
      intro xn10
      apply Oz.walk_cons rfl
      · intro w1 hb hu hd ho K hK
        have e75 : _ = x75 := Eq.symm (hd 8 (by kernel_rfl))
        subst e75
        clear hu hd ho
        go_simp
        exact hK _ _ (Oz.good_same rfl rfl rfl)
      · intro v; simp only [Act.put, List.setIfInBounds_toArray, List.set_cons_succ, List.set_cons_zero]; exact rfl
      · intro v; exact (rfl : _ = ([x68, x69, x70, x71, x72, x73, x67, x74, x75, x14, x14, v] : List Value))
      intro x15
      refine Oz.walk_nil rfl (fun w1 hb hu hd => ?_)
      have e68 : _ = x68 := Eq.symm (hd 0 (by kernel_rfl))
      subst e68
      have e69 : _ = x69 := Eq.symm (hd 1 (by kernel_rfl))
      subst e69
      have e70 : _ = x70 := Eq.symm (hd 2 (by kernel_rfl))
      subst e70
      have h71 := hd 3 (by kernel_rfl)
      have e72 : _ = x72 := Eq.symm (hd 4 (by kernel_rfl))
      subst e72
      have e73 : _ = x73 := Eq.symm (hd 5 (by kernel_rfl))
      subst e73
      have e67 : _ = x67 := Eq.symm (hd 6 (by kernel_rfl))
      subst e67
      have e74 : _ = x74 := Eq.symm (hd 7 (by kernel_rfl))
      subst e74
      have e75 : _ = x75 := Eq.symm (hd 8 (by kernel_rfl))
      subst e75
      have hn10 := hd 10 (by kernel_rfl)
      have e15 : _ = x15 := Eq.symm (hd 11 (by kernel_rfl))
      subst e15
      clear hd hu
      have HBN := Lib.hid (HBR.out.drew.trans (hb.mono HBR.out.size))
      obtain ⟨bx, rfl, _, hh⟩ := hn10
      obtain ⟨r0, r1, r2, _⟩ := at3 hh
      clear hb hh
      go_simp
      obtain ⟨wn, hwq⟩ : ∃ W, W = w1 := ⟨_, rfl⟩
      subst hwq
      go_wp2
      go_roundw
      case rel => exact ⟨1, by omega, by go_num, by first | rfl | (show _ = Value.int .i64 (sN s1 s2 1); simp [sN, *]), HBN.out⟩
      case measure => simp [intOf]
    · as_aux_lemma =>
      rw [show sN s1 s2 1 = s1 from rfl, show ((1 : Nat) : Int) = 1 from rfl]
      have hix := idx16
      go_wp2_with fail
      refine Oz.region_own' 172 [Ow.eqR (.slice A a.length ca), Ow.eqR (.slice B b.length cb), Ow.eqR (.int .i64 16), fun v w' => w'.ownsRow 0 41 3 v (a ++ b ++ [opC 16]).length (flat (a ++ b ++ [opC 16])), Ow.eqR (.agg #[.slice V vs.length vc, .slice X xs.length xc, .slice S ss.length sc]), Ow.eqR (.tuple #[.agg #[.int .i64 2, .int .i64 l16, .int .i64 0], .int .i64 0]), Ow.eqR (.tuple #[.agg #[.int .i64 2, .int .i64 l16, .int .i64 0], .int .i64 0]), Ow.eqR (.agg #[.int .i64 2, .int .i64 l16, .int .i64 0]), Ow.eqR (.int .i64 0), Oz.BoxR (0) 23 #[.int .i64 0, .int .i64 0, .int .i64 0], Oz.BoxR (0) 23 #[.int .i64 2, .int .i64 l16, .int .i64 0], Ow.eqR (.int .i64 0)] [false, false, false, true, false, false, false, false, false, true, true, false] [none, none, none, none, none, none, none, none, none, none, some 9, none] (by kernel_rfl) rfl (by kernel_rfl) ⟨Oz.keeps_eq _ _, Oz.keeps_eq _ _, Oz.keeps_eq _ _, Oz.keeps_own _ _ _ _ _, Oz.keeps_eq _ _, Oz.keeps_eq _ _, Oz.keeps_eq _ _, Oz.keeps_eq _ _, Oz.keeps_eq _ _, Oz.keeps_box _ _ _, Oz.keeps_box _ _ _, Oz.keeps_eq _ _, trivial⟩ ?_
      apply Oz.walk_cons rfl
      · intro w1 hb hu hd ho K hK
        clear hu hd ho
        go_simp
        exact hK _ _ (Oz.good_same rfl rfl rfl)
      · intro v; simp only [Act.put, List.setIfInBounds_toArray, List.set_cons_succ, List.set_cons_zero]; exact rfl
      · intro v; exact (rfl : _ = ([v] : List Value))
      intro x68
      apply Oz.walk_cons rfl
      · intro w1 hb hu hd ho K hK
        clear hu hd ho
        go_simp
        exact hK _ _ (Oz.good_same rfl rfl rfl)
      · intro v; simp only [Act.put, List.setIfInBounds_toArray, List.set_cons_succ, List.set_cons_zero]; exact rfl
      · intro v; exact (rfl : _ = ([x68, v] : List Value))
      intro x69
      apply Oz.walk_cons rfl
      · intro w1 hb hu hd ho K hK
        clear hu hd ho
        go_simp
        exact hK _ _ (Oz.good_same rfl rfl rfl)
      · intro v; simp only [Act.put, List.setIfInBounds_toArray, List.set_cons_succ, List.set_cons_zero]; exact rfl
      · intro v; exact (rfl : _ = ([x68, x69, v] : List Value))
      intro x70
      apply Oz.walk_cons rfl
      · intro w1 hb hu hd ho K hK
        have e68 : _ = x68 := Eq.symm (hd 0 (by kernel_rfl))
        subst e68
        have e69 : _ = x69 := Eq.symm (hd 1 (by kernel_rfl))
        subst e69
        have e70 : _ = x70 := Eq.symm (hd 2 (by kernel_rfl))
        subst e70
        have hz := hb.size
        have hbw : Below w.heap.size w w1 := HW3.out.trans ((HBR.out.drew.trans (hb.mono HBR.out.size)).mono HW3.out.size)
        clear hu hd ho
        go_simp
        refine (HJN.out 16 w1 hbw).mono ?_
        rintro e w2 ⟨v, rfl, hown, hb2⟩
        go_simp
        exact hK _ _ (Oz.good_new rfl hz hb2 (own_low hown (Nat.zero_le _)) (fun g hg => hown.lt g ((Oz.own_slice hown).symm.trans hg)))
      · intro v; simp only [Act.put, List.setIfInBounds_toArray, List.set_cons_succ, List.set_cons_zero]; exact rfl
      · intro v; exact (rfl : _ = ([x68, x69, x70, v] : List Value))
      intro x71
      apply Oz.walk_cons rfl
      · intro w1 hb hu hd ho K hK
        clear hu hd ho
        have hfull : Below w3.heap.size w3 w1 := HBR.out.drew.trans (hb.mono HBR.out.size)
        have c0 := (hfull.cell (cell_lt g0)).trans g0
        have c1 := (hfull.cell (cell_lt g1)).trans g1
        have c2 := (hfull.cell (cell_lt g2)).trans g2
        clear hfull
        go_simp
        exact hK _ _ (Oz.good_same rfl rfl rfl)
      · intro v; simp only [Act.put, List.setIfInBounds_toArray, List.set_cons_succ, List.set_cons_zero]; exact rfl
      · intro v; exact (rfl : _ = ([x68, x69, x70, x71, v] : List Value))
      intro x72
      apply Oz.walk_cons rfl
      · intro w1 hb hu hd ho K hK
        have h71 := hd 3 (by kernel_rfl)
        have e72 : _ = x72 := Eq.symm (hd 4 (by kernel_rfl))
        subst e72
        have hbw : Below w.heap.size w w1 := HW3.out.trans ((HBR.out.drew.trans (hb.mono HBR.out.size)).mono HW3.out.size)
        clear hu hd ho
        go_simp
        refine (HJ.out 16 _ _ w1 (by decide) hbw HE16.out h71).mono ?_
        rintro e w2 ⟨rfl, hb2⟩
        go_simp
        exact hK _ _ (Oz.good_below rfl rfl hb2 rfl)
      · intro v; simp only [Act.put, List.setIfInBounds_toArray, List.set_cons_succ, List.set_cons_zero]; exact rfl
      · intro v; exact (rfl : _ = ([x68, x69, x70, x71, x72, v] : List Value))
      intro x73
      apply Oz.walk_cons rfl
      · intro w1 hb hu hd ho K hK
        have e73 : _ = x73 := Eq.symm (hd 5 (by kernel_rfl))
        subst e73
        clear hu hd ho
        go_simp
        exact hK _ _ (Oz.good_same rfl rfl rfl)
      · intro v; simp only [Act.put, List.setIfInBounds_toArray, List.set_cons_succ, List.set_cons_zero]; exact rfl
      · intro v; exact (rfl : _ = ([x68, x69, x70, x71, x72, x73, v] : List Value))
      intro x67
      apply Oz.walk_cons rfl
      · intro w1 hb hu hd ho K hK
        have e67 : _ = x67 := Eq.symm (hd 6 (by kernel_rfl))
        subst e67
        clear hu hd ho
        go_simp
        exact hK _ _ (Oz.good_same rfl rfl rfl)
      · intro v; simp only [Act.put, List.setIfInBounds_toArray, List.set_cons_succ, List.set_cons_zero]; exact rfl
      · intro v; exact (rfl : _ = ([x68, x69, x70, x71, x72, x73, x67, v] : List Value))
      intro x74
      apply Oz.walk_cons rfl
      · intro w1 hb hu hd ho K hK
        have e67 : _ = x67 := Eq.symm (hd 6 (by kernel_rfl))
        subst e67
        clear hu hd ho
        go_simp
        exact hK _ _ (Oz.good_same rfl rfl rfl)
      · intro v; simp only [Act.put, List.setIfInBounds_toArray, List.set_cons_succ, List.set_cons_zero]; exact rfl
      · intro v; exact (rfl : _ = ([x68, x69, x70, x71, x72, x73, x67, x74, v] : List Value))
      intro x75
      apply Oz.walk_cons rfl
      · intro w1 hb hu hd ho K hK
        have hz := hb.size
        clear hu hd ho
        go_simp
        exact hK _ _ (Oz.good_box (b0 := 0) rfl (Nat.zero_le _) hz rfl)
      · intro v; simp only [Act.put, List.setIfInBounds_toArray, List.set_cons_succ, List.set_cons_zero]; exact rfl
      · intro v; exact (rfl : _ = ([x68, x69, x70, x71, x72, x73, x67, x74, x75, v] : List Value))
      intro x14
      apply Oz.walk_cons rfl
      · intro w1 hb hu hd ho K hK
        have h14 := hd 9 (by kernel_rfl)
        have e74 : _ = x74 := Eq.symm (hd 7 (by kernel_rfl))
        subst e74
        have hz := hb.size
        have hoo := ho 9 (by kernel_rfl) rfl
        obtain ⟨b, rfl, hb0, hh⟩ := h14
        have dq0 : w1.cell? ⟨b, 0, none⟩ = some (.int .i64 0) := by simp [World.cell?, hh]
        have fq0 : w1.frozen? ⟨b, 0, none⟩ = false := by simp [World.frozen?, hh]
        have dq1 : w1.cell? ⟨b, 1, none⟩ = some (.int .i64 0) := by simp [World.cell?, hh]
        have fq1 : w1.frozen? ⟨b, 1, none⟩ = false := by simp [World.frozen?, hh]
        have dq2 : w1.cell? ⟨b, 2, none⟩ = some (.int .i64 0) := by simp [World.cell?, hh]
        have fq2 : w1.frozen? ⟨b, 2, none⟩ = false := by simp [World.frozen?, hh]
        have kq0 := heap_setCell_same _ _ 0 _ _ (.int .i64 2) hh
        have kq1 := heap_setCell_same _ _ 1 _ _ (.int .i64 l16) kq0
        have kq2 := heap_setCell_same _ _ 2 _ _ (.int .i64 0) kq1
        clear hu hd ho
        go_simp
        exact hK undef _ (Oz.good_put (k := 9) (cs := #[.int .i64 2, .int .i64 l16, .int .i64 0]) rfl rfl hb0 hz (Oz.setAll_grown b [.int .i64 2, .int .i64 l16, .int .i64 0] 0 w1) rfl kq2 hoo)
      · intro v; exact rfl
      · intro v; exact (rfl : _ = ([x68, x69, x70, x71, x72, x73, x67, x74, x75, x14, x14] : List Value))
      intro xn10
      apply Oz.walk_cons rfl
      · intro w1 hb hu hd ho K hK
        have e75 : _ = x75 := Eq.symm (hd 8 (by kernel_rfl))
        subst e75
        clear hu hd ho
        go_simp
        exact hK _ _ (Oz.good_same rfl rfl rfl)
      · intro v; simp only [Act.put, List.setIfInBounds_toArray, List.set_cons_succ, List.set_cons_zero]; exact rfl
      · intro v; exact (rfl : _ = ([x68, x69, x70, x71, x72, x73, x67, x74, x75, x14, x14, v] : List Value))
      intro x15
      refine Oz.walk_nil rfl (fun w1 hb hu hd => ?_)
      have e68 : _ = x68 := Eq.symm (hd 0 (by kernel_rfl))
      subst e68
      have e69 : _ = x69 := Eq.symm (hd 1 (by kernel_rfl))
      subst e69
      have e70 : _ = x70 := Eq.symm (hd 2 (by kernel_rfl))
      subst e70
      have h71 := hd 3 (by kernel_rfl)
      have e72 : _ = x72 := Eq.symm (hd 4 (by kernel_rfl))
      subst e72
      have e73 : _ = x73 := Eq.symm (hd 5 (by kernel_rfl))
      subst e73
      have e67 : _ = x67 := Eq.symm (hd 6 (by kernel_rfl))
      subst e67
      have e74 : _ = x74 := Eq.symm (hd 7 (by kernel_rfl))
      subst e74
      have e75 : _ = x75 := Eq.symm (hd 8 (by kernel_rfl))
      subst e75
      have hn10 := hd 10 (by kernel_rfl)
      have e15 : _ = x15 := Eq.symm (hd 11 (by kernel_rfl))
      subst e15
      clear hd hu
      have HBN := Lib.hid (HBR.out.drew.trans (hb.mono HBR.out.size))
      obtain ⟨bx, rfl, _, hh⟩ := hn10
      obtain ⟨r0, r1, r2, _⟩ := at3 hh
      clear hb hh
      go_simp
      obtain ⟨wn, hwq⟩ : ∃ W, W = w1 := ⟨_, rfl⟩
      subst hwq
      go_wp2
      go_roundw
      case rel => exact ⟨2, by omega, by go_num, by first | rfl | (show _ = Value.int .i64 (sN s1 s2 2); simp [sN, *]), HBN.out⟩
      case measure => simp [intOf]
    · as_aux_lemma =>
      rw [show sN s1 s2 2 = s2 from rfl, show ((2 : Nat) : Int) = 2 from rfl]
      have hix := idx20
      go_wp2_with fail
      refine Oz.region_own' 172 [Ow.eqR (.slice A a.length ca), Ow.eqR (.slice B b.length cb), Ow.eqR (.int .i64 20), fun v w' => w'.ownsRow 0 41 3 v (a ++ b ++ [opC 20]).length (flat (a ++ b ++ [opC 20])), Ow.eqR (.agg #[.slice V vs.length vc, .slice X xs.length xc, .slice S ss.length sc]), Ow.eqR (.tuple #[.agg #[.int .i64 2, .int .i64 l20, .int .i64 0], .int .i64 0]), Ow.eqR (.tuple #[.agg #[.int .i64 2, .int .i64 l20, .int .i64 0], .int .i64 0]), Ow.eqR (.agg #[.int .i64 2, .int .i64 l20, .int .i64 0]), Ow.eqR (.int .i64 0), Oz.BoxR (0) 23 #[.int .i64 0, .int .i64 0, .int .i64 0], Oz.BoxR (0) 23 #[.int .i64 2, .int .i64 l20, .int .i64 0], Ow.eqR (.int .i64 0)] [false, false, false, true, false, false, false, false, false, true, true, false] [none, none, none, none, none, none, none, none, none, none, some 9, none] (by kernel_rfl) rfl (by kernel_rfl) ⟨Oz.keeps_eq _ _, Oz.keeps_eq _ _, Oz.keeps_eq _ _, Oz.keeps_own _ _ _ _ _, Oz.keeps_eq _ _, Oz.keeps_eq _ _, Oz.keeps_eq _ _, Oz.keeps_eq _ _, Oz.keeps_eq _ _, Oz.keeps_box _ _ _, Oz.keeps_box _ _ _, Oz.keeps_eq _ _, trivial⟩ ?_
      apply Oz.walk_cons rfl
      · intro w1 hb hu hd ho K hK
        clear hu hd ho
        go_simp
        exact hK _ _ (Oz.good_same rfl rfl rfl)
      · intro v; simp only [Act.put, List.setIfInBounds_toArray, List.set_cons_succ, List.set_cons_zero]; exact rfl
      · intro v; exact (rfl : _ = ([v] : List Value))
      intro x68
      apply Oz.walk_cons rfl
      · intro w1 hb hu hd ho K hK
        clear hu hd ho
        go_simp
        exact hK _ _ (Oz.good_same rfl rfl rfl)
      · intro v; simp only [Act.put, List.setIfInBounds_toArray, List.set_cons_succ, List.set_cons_zero]; exact rfl
      · intro v; exact (rfl : _ = ([x68, v] : List Value))
      intro x69
      apply Oz.walk_cons rfl
      · intro w1 hb hu hd ho K hK
        clear hu hd ho
        go_simp
        exact hK _ _ (Oz.good_same rfl rfl rfl)
      · intro v; simp only [Act.put, List.setIfInBounds_toArray, List.set_cons_succ, List.set_cons_zero]; exact rfl
      · intro v; exact (rfl : _ = ([x68, x69, v] : List Value))
      intro x70
      apply Oz.walk_cons rfl
      · intro w1 hb hu hd ho K hK
        have e68 : _ = x68 := Eq.symm (hd 0 (by kernel_rfl))
        subst e68
        have e69 : _ = x69 := Eq.symm (hd 1 (by kernel_rfl))
        subst e69
        have e70 : _ = x70 := Eq.symm (hd 2 (by kernel_rfl))
        subst e70
        have hz := hb.size
        have hbw : Below w.heap.size w w1 := HW3.out.trans ((HBR.out.drew.trans (hb.mono HBR.out.size)).mono HW3.out.size)
        clear hu hd ho
        go_simp
        refine (HJN.out 20 w1 hbw).mono ?_
        rintro e w2 ⟨v, rfl, hown, hb2⟩
        go_simp
        exact hK _ _ (Oz.good_new rfl hz hb2 (own_low hown (Nat.zero_le _)) (fun g hg => hown.lt g ((Oz.own_slice hown).symm.trans hg)))
      · intro v; simp only [Act.put, List.setIfInBounds_toArray, List.set_cons_succ, List.set_cons_zero]; exact rfl
      · intro v; exact (rfl : _ = ([x68, x69, x70, v] : List Value))
      intro x71
      apply Oz.walk_cons rfl
      · intro w1 hb hu hd ho K hK
        clear hu hd ho
        have hfull : Below w3.heap.size w3 w1 := HBR.out.drew.trans (hb.mono HBR.out.size)
        have c0 := (hfull.cell (cell_lt g0)).trans g0
        have c1 := (hfull.cell (cell_lt g1)).trans g1
        have c2 := (hfull.cell (cell_lt g2)).trans g2
        clear hfull
        go_simp
        exact hK _ _ (Oz.good_same rfl rfl rfl)
      · intro v; simp only [Act.put, List.setIfInBounds_toArray, List.set_cons_succ, List.set_cons_zero]; exact rfl
      · intro v; exact (rfl : _ = ([x68, x69, x70, x71, v] : List Value))
      intro x72
      apply Oz.walk_cons rfl
      · intro w1 hb hu hd ho K hK
        have h71 := hd 3 (by kernel_rfl)
        have e72 : _ = x72 := Eq.symm (hd 4 (by kernel_rfl))
        subst e72
        have hbw : Below w.heap.size w w1 := HW3.out.trans ((HBR.out.drew.trans (hb.mono HBR.out.size)).mono HW3.out.size)
        clear hu hd ho
        go_simp
        refine (HJ.out 20 _ _ w1 (by decide) hbw HE20.out h71).mono ?_
        rintro e w2 ⟨rfl, hb2⟩
        go_simp
        exact hK _ _ (Oz.good_below rfl rfl hb2 rfl)
      · intro v; simp only [Act.put, List.setIfInBounds_toArray, List.set_cons_succ, List.set_cons_zero]; exact rfl
      · intro v; exact (rfl : _ = ([x68, x69, x70, x71, x72, v] : List Value))
      intro x73
      apply Oz.walk_cons rfl
      · intro w1 hb hu hd ho K hK
        have e73 : _ = x73 := Eq.symm (hd 5 (by kernel_rfl))
        subst e73
        clear hu hd ho
        go_simp
        exact hK _ _ (Oz.good_same rfl rfl rfl)
      · intro v; simp only [Act.put, List.setIfInBounds_toArray, List.set_cons_succ, List.set_cons_zero]; exact rfl
      · intro v; exact (rfl : _ = ([x68, x69, x70, x71, x72, x73, v] : List Value))
      intro x67
      apply Oz.walk_cons rfl
      · intro w1 hb hu hd ho K hK
        have e67 : _ = x67 := Eq.symm (hd 6 (by kernel_rfl))
        subst e67
        clear hu hd ho
        go_simp
        exact hK _ _ (Oz.good_same rfl rfl rfl)
      · intro v; simp only [Act.put, List.setIfInBounds_toArray, List.set_cons_succ, List.set_cons_zero]; exact rfl
      · intro v; exact (rfl : _ = ([x68, x69, x70, x71, x72, x73, x67, v] : List Value))
      intro x74
      apply Oz.walk_cons rfl
      · intro w1 hb hu hd ho K hK
        have e67 : _ = x67 := Eq.symm (hd 6 (by kernel_rfl))
        subst e67
        clear hu hd ho
        go_simp
        exact hK _ _ (Oz.good_same rfl rfl rfl)
      · intro v; simp only [Act.put, List.setIfInBounds_toArray, List.set_cons_succ, List.set_cons_zero]; exact rfl
      · intro v; exact (rfl : _ = ([x68, x69, x70, x71, x72, x73, x67, x74, v] : List Value))
      intro x75
      apply Oz.walk_cons rfl
      · intro w1 hb hu hd ho K hK
        have hz := hb.size
        clear hu hd ho
        go_simp
        exact hK _ _ (Oz.good_box (b0 := 0) rfl (Nat.zero_le _) hz rfl)
      · intro v; simp only [Act.put, List.setIfInBounds_toArray, List.set_cons_succ, List.set_cons_zero]; exact rfl
      · intro v; exact (rfl : _ = ([x68, x69, x70, x71, x72, x73, x67, x74, x75, v] : List Value))
      intro x14
      apply Oz.walk_cons rfl
      · intro w1 hb hu hd ho K hK
        have h14 := hd 9 (by kernel_rfl)
        have e74 : _ = x74 := Eq.symm (hd 7 (by kernel_rfl))
        subst e74
        have hz := hb.size
        have hoo := ho 9 (by kernel_rfl) rfl
        obtain ⟨b, rfl, hb0, hh⟩ := h14
        have dq0 : w1.cell? ⟨b, 0, none⟩ = some (.int .i64 0) := by simp [World.cell?, hh]
        have fq0 : w1.frozen? ⟨b, 0, none⟩ = false := by simp [World.frozen?, hh]
        have dq1 : w1.cell? ⟨b, 1, none⟩ = some (.int .i64 0) := by simp [World.cell?, hh]
        have fq1 : w1.frozen? ⟨b, 1, none⟩ = false := by simp [World.frozen?, hh]
        have dq2 : w1.cell? ⟨b, 2, none⟩ = some (.int .i64 0) := by simp [World.cell?, hh]
        have fq2 : w1.frozen? ⟨b, 2, none⟩ = false := by simp [World.frozen?, hh]
        have kq0 := heap_setCell_same _ _ 0 _ _ (.int .i64 2) hh
        have kq1 := heap_setCell_same _ _ 1 _ _ (.int .i64 l20) kq0
        have kq2 := heap_setCell_same _ _ 2 _ _ (.int .i64 0) kq1
        clear hu hd ho
        go_simp
        exact hK undef _ (Oz.good_put (k := 9) (cs := #[.int .i64 2, .int .i64 l20, .int .i64 0]) rfl rfl hb0 hz (Oz.setAll_grown b [.int .i64 2, .int .i64 l20, .int .i64 0] 0 w1) rfl kq2 hoo)
      · intro v; exact rfl
      · intro v; exact (rfl : _ = ([x68, x69, x70, x71, x72, x73, x67, x74, x75, x14, x14] : List Value))
      intro xn10
      apply Oz.walk_cons rfl
      · intro w1 hb hu hd ho K hK
        have e75 : _ = x75 := Eq.symm (hd 8 (by kernel_rfl))
        subst e75
        clear hu hd ho
        go_simp
        exact hK _ _ (Oz.good_same rfl rfl rfl)
      · intro v; simp only [Act.put, List.setIfInBounds_toArray, List.set_cons_succ, List.set_cons_zero]; exact rfl
      · intro v; exact (rfl : _ = ([x68, x69, x70, x71, x72, x73, x67, x74, x75, x14, x14, v] : List Value))
      intro x15
      refine Oz.walk_nil rfl (fun w1 hb hu hd => ?_)
      have e68 : _ = x68 := Eq.symm (hd 0 (by kernel_rfl))
      subst e68
      have e69 : _ = x69 := Eq.symm (hd 1 (by kernel_rfl))
      subst e69
      have e70 : _ = x70 := Eq.symm (hd 2 (by kernel_rfl))
      subst e70
      have h71 := hd 3 (by kernel_rfl)
      have e72 : _ = x72 := Eq.symm (hd 4 (by kernel_rfl))
      subst e72
      have e73 : _ = x73 := Eq.symm (hd 5 (by kernel_rfl))
      subst e73
      have e67 : _ = x67 := Eq.symm (hd 6 (by kernel_rfl))
      subst e67
      have e74 : _ = x74 := Eq.symm (hd 7 (by kernel_rfl))
      subst e74
      have e75 : _ = x75 := Eq.symm (hd 8 (by kernel_rfl))
      subst e75
      have hn10 := hd 10 (by kernel_rfl)
      have e15 : _ = x15 := Eq.symm (hd 11 (by kernel_rfl))
      subst e15
      clear hd hu
      have HBN := Lib.hid (HBR.out.drew.trans (hb.mono HBR.out.size))
      obtain ⟨bx, rfl, _, hh⟩ := hn10
      obtain ⟨r0, r1, r2, _⟩ := at3 hh
      clear hb hh
      go_simp
      obtain ⟨wn, hwq⟩ : ∃ W, W = w1 := ⟨_, rfl⟩
      subst hwq
      go_wp2
      go_roundw
      case rel => exact ⟨3, by omega, by go_num, by first | rfl | (show _ = Value.int .i64 (sN s1 s2 3); simp [sN, *]), HBN.out⟩
      case measure => simp [intOf]
    · as_aux_lemma =>
      rw [show sN s1 s2 3 = 1 from rfl, show ((3 : Nat) : Int) = 3 from rfl]
      go_wp2_with fail
      refine Oz.region_own' 172 [Ow.eqR (.slice A a.length ca), Ow.eqR (.slice B b.length cb), fun v w' => w'.ownsRow 0 41 3 v (a ++ b ++ [opC 19]).length (flat (a ++ b ++ [opC 19])), Ow.eqR (.agg #[.slice V vs.length vc, .slice X xs.length xc, .slice S ss.length sc]), Ow.eqR (.tuple #[.agg #[.int .i64 2, .int .i64 l19, .int .i64 0], .int .i64 0]), Ow.eqR (.tuple #[.agg #[.int .i64 2, .int .i64 l19, .int .i64 0], .int .i64 0]), Ow.eqR (.agg #[.int .i64 2, .int .i64 l19, .int .i64 0]), Ow.eqR (.int .i64 0), Oz.BoxR (0) 23 #[.int .i64 0, .int .i64 0, .int .i64 0], Oz.BoxR (0) 23 #[.int .i64 2, .int .i64 l19, .int .i64 0], Ow.eqR (.int .i64 0)] [false, false, true, false, false, false, false, false, true, true, false] [none, none, none, none, none, none, none, none, none, some 8, none] (by kernel_rfl) rfl (by kernel_rfl) ⟨Oz.keeps_eq _ _, Oz.keeps_eq _ _, Oz.keeps_own _ _ _ _ _, Oz.keeps_eq _ _, Oz.keeps_eq _ _, Oz.keeps_eq _ _, Oz.keeps_eq _ _, Oz.keeps_eq _ _, Oz.keeps_box _ _ _, Oz.keeps_box _ _ _, Oz.keeps_eq _ _, trivial⟩ ?_
      apply Oz.walk_cons rfl
      · intro w1 hb hu hd ho K hK
        clear hu hd ho
        go_simp
        exact hK _ _ (Oz.good_same rfl rfl rfl)
      · intro v; simp only [Act.put, List.setIfInBounds_toArray, List.set_cons_succ, List.set_cons_zero]; exact rfl
      · intro v; exact (rfl : _ = ([v] : List Value))
      intro x82
      apply Oz.walk_cons rfl
      · intro w1 hb hu hd ho K hK
        clear hu hd ho
        go_simp
        exact hK _ _ (Oz.good_same rfl rfl rfl)
      · intro v; simp only [Act.put, List.setIfInBounds_toArray, List.set_cons_succ, List.set_cons_zero]; exact rfl
      · intro v; exact (rfl : _ = ([x82, v] : List Value))
      intro x83
      apply Oz.walk_cons rfl
      · intro w1 hb hu hd ho K hK
        have e82 : _ = x82 := Eq.symm (hd 0 (by kernel_rfl))
        subst e82
        have e83 : _ = x83 := Eq.symm (hd 1 (by kernel_rfl))
        subst e83
        have hz := hb.size
        have hbw : Below w.heap.size w w1 := HW3.out.trans ((HBR.out.drew.trans (hb.mono HBR.out.size)).mono HW3.out.size)
        clear hu hd ho
        go_simp
        refine (HJN.out 19 w1 hbw).mono ?_
        rintro e w2 ⟨v, rfl, hown, hb2⟩
        go_simp
        exact hK _ _ (Oz.good_new rfl hz hb2 (own_low hown (Nat.zero_le _)) (fun g hg => hown.lt g ((Oz.own_slice hown).symm.trans hg)))
      · intro v; simp only [Act.put, List.setIfInBounds_toArray, List.set_cons_succ, List.set_cons_zero]; exact rfl
      · intro v; exact (rfl : _ = ([x82, x83, v] : List Value))
      intro x84
      apply Oz.walk_cons rfl
      · intro w1 hb hu hd ho K hK
        clear hu hd ho
        have hfull : Below w3.heap.size w3 w1 := HBR.out.drew.trans (hb.mono HBR.out.size)
        have c0 := (hfull.cell (cell_lt g0)).trans g0
        have c1 := (hfull.cell (cell_lt g1)).trans g1
        have c2 := (hfull.cell (cell_lt g2)).trans g2
        clear hfull
        go_simp
        exact hK _ _ (Oz.good_same rfl rfl rfl)
      · intro v; simp only [Act.put, List.setIfInBounds_toArray, List.set_cons_succ, List.set_cons_zero]; exact rfl
      · intro v; exact (rfl : _ = ([x82, x83, x84, v] : List Value))
      intro x85
      apply Oz.walk_cons rfl
      · intro w1 hb hu hd ho K hK
        have h84 := hd 2 (by kernel_rfl)
        have e85 : _ = x85 := Eq.symm (hd 3 (by kernel_rfl))
        subst e85
        have hbw : Below w.heap.size w w1 := HW3.out.trans ((HBR.out.drew.trans (hb.mono HBR.out.size)).mono HW3.out.size)
        clear hu hd ho
        go_simp
        refine (HJ.out 19 _ _ w1 (by decide) hbw HE19.out h84).mono ?_
        rintro e w2 ⟨rfl, hb2⟩
        go_simp
        exact hK _ _ (Oz.good_below rfl rfl hb2 rfl)
      · intro v; simp only [Act.put, List.setIfInBounds_toArray, List.set_cons_succ, List.set_cons_zero]; exact rfl
      · intro v; exact (rfl : _ = ([x82, x83, x84, x85, v] : List Value))
      intro x86
      apply Oz.walk_cons rfl
      · intro w1 hb hu hd ho K hK
        have e86 : _ = x86 := Eq.symm (hd 4 (by kernel_rfl))
        subst e86
        clear hu hd ho
        go_simp
        exact hK _ _ (Oz.good_same rfl rfl rfl)
      · intro v; simp only [Act.put, List.setIfInBounds_toArray, List.set_cons_succ, List.set_cons_zero]; exact rfl
      · intro v; exact (rfl : _ = ([x82, x83, x84, x85, x86, v] : List Value))
      intro x81
      apply Oz.walk_cons rfl
      · intro w1 hb hu hd ho K hK
        have e81 : _ = x81 := Eq.symm (hd 5 (by kernel_rfl))
        subst e81
        clear hu hd ho
        go_simp
        exact hK _ _ (Oz.good_same rfl rfl rfl)
      · intro v; simp only [Act.put, List.setIfInBounds_toArray, List.set_cons_succ, List.set_cons_zero]; exact rfl
      · intro v; exact (rfl : _ = ([x82, x83, x84, x85, x86, x81, v] : List Value))
      intro x87
      apply Oz.walk_cons rfl
      · intro w1 hb hu hd ho K hK
        have e81 : _ = x81 := Eq.symm (hd 5 (by kernel_rfl))
        subst e81
        clear hu hd ho
        go_simp
        exact hK _ _ (Oz.good_same rfl rfl rfl)
      · intro v; simp only [Act.put, List.setIfInBounds_toArray, List.set_cons_succ, List.set_cons_zero]; exact rfl
      · intro v; exact (rfl : _ = ([x82, x83, x84, x85, x86, x81, x87, v] : List Value))
      intro x88
      apply Oz.walk_cons rfl
      · intro w1 hb hu hd ho K hK
        have hz := hb.size
        clear hu hd ho
        go_simp
        exact hK _ _ (Oz.good_box (b0 := 0) rfl (Nat.zero_le _) hz rfl)
      · intro v; simp only [Act.put, List.setIfInBounds_toArray, List.set_cons_succ, List.set_cons_zero]; exact rfl
      · intro v; exact (rfl : _ = ([x82, x83, x84, x85, x86, x81, x87, x88, v] : List Value))
      intro x16
      apply Oz.walk_cons rfl
      · intro w1 hb hu hd ho K hK
        have h16 := hd 8 (by kernel_rfl)
        have e87 : _ = x87 := Eq.symm (hd 6 (by kernel_rfl))
        subst e87
        have hz := hb.size
        have hoo := ho 8 (by kernel_rfl) rfl
        obtain ⟨b, rfl, hb0, hh⟩ := h16
        have dq0 : w1.cell? ⟨b, 0, none⟩ = some (.int .i64 0) := by simp [World.cell?, hh]
        have fq0 : w1.frozen? ⟨b, 0, none⟩ = false := by simp [World.frozen?, hh]
        have dq1 : w1.cell? ⟨b, 1, none⟩ = some (.int .i64 0) := by simp [World.cell?, hh]
        have fq1 : w1.frozen? ⟨b, 1, none⟩ = false := by simp [World.frozen?, hh]
        have dq2 : w1.cell? ⟨b, 2, none⟩ = some (.int .i64 0) := by simp [World.cell?, hh]
        have fq2 : w1.frozen? ⟨b, 2, none⟩ = false := by simp [World.frozen?, hh]
        have kq0 := heap_setCell_same _ _ 0 _ _ (.int .i64 2) hh
        have kq1 := heap_setCell_same _ _ 1 _ _ (.int .i64 l19) kq0
        have kq2 := heap_setCell_same _ _ 2 _ _ (.int .i64 0) kq1
        clear hu hd ho
        go_simp
        exact hK undef _ (Oz.good_put (k := 8) (cs := #[.int .i64 2, .int .i64 l19, .int .i64 0]) rfl rfl hb0 hz (Oz.setAll_grown b [.int .i64 2, .int .i64 l19, .int .i64 0] 0 w1) rfl kq2 hoo)
      · intro v; exact rfl
      · intro v; exact (rfl : _ = ([x82, x83, x84, x85, x86, x81, x87, x88, x16, x16] : List Value))
      intro xn9
      apply Oz.walk_cons rfl
      · intro w1 hb hu hd ho K hK
        have e88 : _ = x88 := Eq.symm (hd 7 (by kernel_rfl))
        subst e88
        clear hu hd ho
        go_simp
        exact hK _ _ (Oz.good_same rfl rfl rfl)
      · intro v; simp only [Act.put, List.setIfInBounds_toArray, List.set_cons_succ, List.set_cons_zero]; exact rfl
      · intro v; exact (rfl : _ = ([x82, x83, x84, x85, x86, x81, x87, x88, x16, x16, v] : List Value))
      intro x17
      refine Oz.walk_nil rfl (fun w1 hb hu hd => ?_)
      have e82 : _ = x82 := Eq.symm (hd 0 (by kernel_rfl))
      subst e82
      have e83 : _ = x83 := Eq.symm (hd 1 (by kernel_rfl))
      subst e83
      have h84 := hd 2 (by kernel_rfl)
      have e85 : _ = x85 := Eq.symm (hd 3 (by kernel_rfl))
      subst e85
      have e86 : _ = x86 := Eq.symm (hd 4 (by kernel_rfl))
      subst e86
      have e81 : _ = x81 := Eq.symm (hd 5 (by kernel_rfl))
      subst e81
      have e87 : _ = x87 := Eq.symm (hd 6 (by kernel_rfl))
      subst e87
      have e88 : _ = x88 := Eq.symm (hd 7 (by kernel_rfl))
      subst e88
      have hn9 := hd 9 (by kernel_rfl)
      have e17 : _ = x17 := Eq.symm (hd 10 (by kernel_rfl))
      subst e17
      clear hd hu
      have HBN := Lib.hid (HBR.out.drew.trans (hb.mono HBR.out.size))
      obtain ⟨bx, rfl, _, hh⟩ := hn9
      obtain ⟨r0, r1, r2, _⟩ := at3 hh
      clear hb hh
      go_simp
      obtain ⟨wA, hwq⟩ : ∃ W, W = w1 := ⟨_, rfl⟩
      subst hwq
      clear HBR
      have HBR := HBN
      clear HBN
      have fle := r1
      clear r0 r1 r2
      go_wp2_with fail
      refine Oz.region_own' 172 [Ow.eqR (.slice A a.length ca), Ow.eqR (.slice B b.length cb), fun v w' => w'.ownsRow 0 41 3 v (a ++ b ++ [opC 20]).length (flat (a ++ b ++ [opC 20])), Ow.eqR (.agg #[.slice V vs.length vc, .slice X xs.length xc, .slice S ss.length sc]), Ow.eqR (.tuple #[.agg #[.int .i64 2, .int .i64 l20, .int .i64 0], .int .i64 0]), Ow.eqR (.tuple #[.agg #[.int .i64 2, .int .i64 l20, .int .i64 0], .int .i64 0]), Ow.eqR (.agg #[.int .i64 2, .int .i64 l20, .int .i64 0]), Ow.eqR (.int .i64 0), Oz.BoxR (0) 23 #[.int .i64 0, .int .i64 0, .int .i64 0], Oz.BoxR (0) 23 #[.int .i64 2, .int .i64 l20, .int .i64 0], Ow.eqR (.int .i64 0)] [false, false, true, false, false, false, false, false, true, true, false] [none, none, none, none, none, none, none, none, none, some 8, none] (by kernel_rfl) rfl (by kernel_rfl) ⟨Oz.keeps_eq _ _, Oz.keeps_eq _ _, Oz.keeps_own _ _ _ _ _, Oz.keeps_eq _ _, Oz.keeps_eq _ _, Oz.keeps_eq _ _, Oz.keeps_eq _ _, Oz.keeps_eq _ _, Oz.keeps_box _ _ _, Oz.keeps_box _ _ _, Oz.keeps_eq _ _, trivial⟩ ?_
      apply Oz.walk_cons rfl
      · intro w1 hb hu hd ho K hK
        clear hu hd ho
        go_simp
        exact hK _ _ (Oz.good_same rfl rfl rfl)
      · intro v; simp only [Act.put, List.setIfInBounds_toArray, List.set_cons_succ, List.set_cons_zero]; exact rfl
      · intro v; exact (rfl : _ = ([v] : List Value))
      intro x90
      apply Oz.walk_cons rfl
      · intro w1 hb hu hd ho K hK
        clear hu hd ho
        go_simp
        exact hK _ _ (Oz.good_same rfl rfl rfl)
      · intro v; simp only [Act.put, List.setIfInBounds_toArray, List.set_cons_succ, List.set_cons_zero]; exact rfl
      · intro v; exact (rfl : _ = ([x90, v] : List Value))
      intro x91
      apply Oz.walk_cons rfl
      · intro w1 hb hu hd ho K hK
        have e90 : _ = x90 := Eq.symm (hd 0 (by kernel_rfl))
        subst e90
        have e91 : _ = x91 := Eq.symm (hd 1 (by kernel_rfl))
        subst e91
        have hz := hb.size
        have hbw : Below w.heap.size w w1 := HW3.out.trans ((HBR.out.drew.trans (hb.mono HBR.out.size)).mono HW3.out.size)
        clear hu hd ho
        go_simp
        refine (HJN.out 20 w1 hbw).mono ?_
        rintro e w2 ⟨v, rfl, hown, hb2⟩
        go_simp
        exact hK _ _ (Oz.good_new rfl hz hb2 (own_low hown (Nat.zero_le _)) (fun g hg => hown.lt g ((Oz.own_slice hown).symm.trans hg)))
      · intro v; simp only [Act.put, List.setIfInBounds_toArray, List.set_cons_succ, List.set_cons_zero]; exact rfl
      · intro v; exact (rfl : _ = ([x90, x91, v] : List Value))
      intro x92
      apply Oz.walk_cons rfl
      · intro w1 hb hu hd ho K hK
        clear hu hd ho
        have hfull : Below w3.heap.size w3 w1 := HBR.out.drew.trans (hb.mono HBR.out.size)
        have c0 := (hfull.cell (cell_lt g0)).trans g0
        have c1 := (hfull.cell (cell_lt g1)).trans g1
        have c2 := (hfull.cell (cell_lt g2)).trans g2
        clear hfull
        go_simp
        exact hK _ _ (Oz.good_same rfl rfl rfl)
      · intro v; simp only [Act.put, List.setIfInBounds_toArray, List.set_cons_succ, List.set_cons_zero]; exact rfl
      · intro v; exact (rfl : _ = ([x90, x91, x92, v] : List Value))
      intro x93
      apply Oz.walk_cons rfl
      · intro w1 hb hu hd ho K hK
        have h92 := hd 2 (by kernel_rfl)
        have e93 : _ = x93 := Eq.symm (hd 3 (by kernel_rfl))
        subst e93
        have hbw : Below w.heap.size w w1 := HW3.out.trans ((HBR.out.drew.trans (hb.mono HBR.out.size)).mono HW3.out.size)
        clear hu hd ho
        go_simp
        refine (HJ.out 20 _ _ w1 (by decide) hbw HE20.out h92).mono ?_
        rintro e w2 ⟨rfl, hb2⟩
        go_simp
        exact hK _ _ (Oz.good_below rfl rfl hb2 rfl)
      · intro v; simp only [Act.put, List.setIfInBounds_toArray, List.set_cons_succ, List.set_cons_zero]; exact rfl
      · intro v; exact (rfl : _ = ([x90, x91, x92, x93, v] : List Value))
      intro x94
      apply Oz.walk_cons rfl
      · intro w1 hb hu hd ho K hK
        have e94 : _ = x94 := Eq.symm (hd 4 (by kernel_rfl))
        subst e94
        clear hu hd ho
        go_simp
        exact hK _ _ (Oz.good_same rfl rfl rfl)
      · intro v; simp only [Act.put, List.setIfInBounds_toArray, List.set_cons_succ, List.set_cons_zero]; exact rfl
      · intro v; exact (rfl : _ = ([x90, x91, x92, x93, x94, v] : List Value))
      intro x89
      apply Oz.walk_cons rfl
      · intro w1 hb hu hd ho K hK
        have e89 : _ = x89 := Eq.symm (hd 5 (by kernel_rfl))
        subst e89
        clear hu hd ho
        go_simp
        exact hK _ _ (Oz.good_same rfl rfl rfl)
      · intro v; simp only [Act.put, List.setIfInBounds_toArray, List.set_cons_succ, List.set_cons_zero]; exact rfl
      · intro v; exact (rfl : _ = ([x90, x91, x92, x93, x94, x89, v] : List Value))
      intro x95
      apply Oz.walk_cons rfl
      · intro w1 hb hu hd ho K hK
        have e89 : _ = x89 := Eq.symm (hd 5 (by kernel_rfl))
        subst e89
        clear hu hd ho
        go_simp
        exact hK _ _ (Oz.good_same rfl rfl rfl)
      · intro v; simp only [Act.put, List.setIfInBounds_toArray, List.set_cons_succ, List.set_cons_zero]; exact rfl
      · intro v; exact (rfl : _ = ([x90, x91, x92, x93, x94, x89, x95, v] : List Value))
      intro x96
      apply Oz.walk_cons rfl
      · intro w1 hb hu hd ho K hK
        have hz := hb.size
        clear hu hd ho
        go_simp
        exact hK _ _ (Oz.good_box (b0 := 0) rfl (Nat.zero_le _) hz rfl)
      · intro v; simp only [Act.put, List.setIfInBounds_toArray, List.set_cons_succ, List.set_cons_zero]; exact rfl
      · intro v; exact (rfl : _ = ([x90, x91, x92, x93, x94, x89, x95, x96, v] : List Value))
      intro x18
      apply Oz.walk_cons rfl
      · intro w1 hb hu hd ho K hK
        have h18 := hd 8 (by kernel_rfl)
        have e95 : _ = x95 := Eq.symm (hd 6 (by kernel_rfl))
        subst e95
        have hz := hb.size
        have hoo := ho 8 (by kernel_rfl) rfl
        obtain ⟨b, rfl, hb0, hh⟩ := h18
        have dq0 : w1.cell? ⟨b, 0, none⟩ = some (.int .i64 0) := by simp [World.cell?, hh]
        have fq0 : w1.frozen? ⟨b, 0, none⟩ = false := by simp [World.frozen?, hh]
        have dq1 : w1.cell? ⟨b, 1, none⟩ = some (.int .i64 0) := by simp [World.cell?, hh]
        have fq1 : w1.frozen? ⟨b, 1, none⟩ = false := by simp [World.frozen?, hh]
        have dq2 : w1.cell? ⟨b, 2, none⟩ = some (.int .i64 0) := by simp [World.cell?, hh]
        have fq2 : w1.frozen? ⟨b, 2, none⟩ = false := by simp [World.frozen?, hh]
        have kq0 := heap_setCell_same _ _ 0 _ _ (.int .i64 2) hh
        have kq1 := heap_setCell_same _ _ 1 _ _ (.int .i64 l20) kq0
        have kq2 := heap_setCell_same _ _ 2 _ _ (.int .i64 0) kq1
        clear hu hd ho
        go_simp
        exact hK undef _ (Oz.good_put (k := 8) (cs := #[.int .i64 2, .int .i64 l20, .int .i64 0]) rfl rfl hb0 hz (Oz.setAll_grown b [.int .i64 2, .int .i64 l20, .int .i64 0] 0 w1) rfl kq2 hoo)
      · intro v; exact rfl
      · intro v; exact (rfl : _ = ([x90, x91, x92, x93, x94, x89, x95, x96, x18, x18] : List Value))
      intro xn9
      apply Oz.walk_cons rfl
      · intro w1 hb hu hd ho K hK
        have e96 : _ = x96 := Eq.symm (hd 7 (by kernel_rfl))
        subst e96
        clear hu hd ho
        go_simp
        exact hK _ _ (Oz.good_same rfl rfl rfl)
      · intro v; simp only [Act.put, List.setIfInBounds_toArray, List.set_cons_succ, List.set_cons_zero]; exact rfl
      · intro v; exact (rfl : _ = ([x90, x91, x92, x93, x94, x89, x95, x96, x18, x18, v] : List Value))
      intro x19
      refine Oz.walk_nil rfl (fun w1 hb hu hd => ?_)
      have e90 : _ = x90 := Eq.symm (hd 0 (by kernel_rfl))
      subst e90
      have e91 : _ = x91 := Eq.symm (hd 1 (by kernel_rfl))
      subst e91
      have h92 := hd 2 (by kernel_rfl)
      have e93 : _ = x93 := Eq.symm (hd 3 (by kernel_rfl))
      subst e93
      have e94 : _ = x94 := Eq.symm (hd 4 (by kernel_rfl))
      subst e94
      have e89 : _ = x89 := Eq.symm (hd 5 (by kernel_rfl))
      subst e89
      have e95 : _ = x95 := Eq.symm (hd 6 (by kernel_rfl))
      subst e95
      have e96 : _ = x96 := Eq.symm (hd 7 (by kernel_rfl))
      subst e96
      have hn9 := hd 9 (by kernel_rfl)
      have e19 : _ = x19 := Eq.symm (hd 10 (by kernel_rfl))
      subst e19
      clear hd hu
      have HBN := Lib.hid (HBR.out.drew.trans (hb.mono HBR.out.size))
      have fle_ := (hb.cell (cell_lt fle)).trans fle
      clear fle
      have fle := fle_
      clear fle_
      obtain ⟨bx, rfl, _, hh⟩ := hn9
      obtain ⟨r0, r1, r2, _⟩ := at3 hh
      clear hb hh
      go_simp
      obtain ⟨wB, hwq⟩ : ∃ W, W = w1 := ⟨_, rfl⟩
      subst hwq
      clear HBR
      have HBR := HBN
      clear HBN
      have fgt := r1
      clear r0 r1 r2
      go_wp2_with fail
      refine Oz.region_own' 172 [Ow.eqR (.slice A a.length ca), Ow.eqR (.slice B b.length cb), fun v w' => w'.ownsRow 0 41 3 v (a ++ b ++ [opC 14]).length (flat (a ++ b ++ [opC 14])), Ow.eqR (.agg #[.slice V vs.length vc, .slice X xs.length xc, .slice S ss.length sc]), Ow.eqR (.tuple #[.agg #[.int .i64 qk, .int .i64 qa, .int .i64 qb], .int .i64 qe]), Ow.eqR (.tuple #[.agg #[.int .i64 qk, .int .i64 qa, .int .i64 qb], .int .i64 qe]), Ow.eqR (.agg #[.int .i64 qk, .int .i64 qa, .int .i64 qb]), Ow.eqR (.int .i64 qe), Oz.BoxR (0) 23 #[.int .i64 0, .int .i64 0, .int .i64 0], Oz.BoxR (0) 23 #[.int .i64 qk, .int .i64 qa, .int .i64 qb], Ow.eqR (.int .i64 qe)] [false, false, true, false, false, false, false, false, true, true, false] [none, none, none, none, none, none, none, none, none, some 8, none] (by kernel_rfl) rfl (by kernel_rfl) ⟨Oz.keeps_eq _ _, Oz.keeps_eq _ _, Oz.keeps_own _ _ _ _ _, Oz.keeps_eq _ _, Oz.keeps_eq _ _, Oz.keeps_eq _ _, Oz.keeps_eq _ _, Oz.keeps_eq _ _, Oz.keeps_box _ _ _, Oz.keeps_box _ _ _, Oz.keeps_eq _ _, trivial⟩ ?_
      apply Oz.walk_cons rfl
      · intro w1 hb hu hd ho K hK
        clear hu hd ho
        go_simp
        exact hK _ _ (Oz.good_same rfl rfl rfl)
      · intro v; simp only [Act.put, List.setIfInBounds_toArray, List.set_cons_succ, List.set_cons_zero]; exact rfl
      · intro v; exact (rfl : _ = ([v] : List Value))
      intro x98
      apply Oz.walk_cons rfl
      · intro w1 hb hu hd ho K hK
        clear hu hd ho
        go_simp
        exact hK _ _ (Oz.good_same rfl rfl rfl)
      · intro v; simp only [Act.put, List.setIfInBounds_toArray, List.set_cons_succ, List.set_cons_zero]; exact rfl
      · intro v; exact (rfl : _ = ([x98, v] : List Value))
      intro x99
      apply Oz.walk_cons rfl
      · intro w1 hb hu hd ho K hK
        have e98 : _ = x98 := Eq.symm (hd 0 (by kernel_rfl))
        subst e98
        have e99 : _ = x99 := Eq.symm (hd 1 (by kernel_rfl))
        subst e99
        have hz := hb.size
        have hbw : Below w.heap.size w w1 := HW3.out.trans ((HBR.out.drew.trans (hb.mono HBR.out.size)).mono HW3.out.size)
        clear hu hd ho
        go_simp
        refine (HJN.out 14 w1 hbw).mono ?_
        rintro e w2 ⟨v, rfl, hown, hb2⟩
        go_simp
        exact hK _ _ (Oz.good_new rfl hz hb2 (own_low hown (Nat.zero_le _)) (fun g hg => hown.lt g ((Oz.own_slice hown).symm.trans hg)))
      · intro v; simp only [Act.put, List.setIfInBounds_toArray, List.set_cons_succ, List.set_cons_zero]; exact rfl
      · intro v; exact (rfl : _ = ([x98, x99, v] : List Value))
      intro x100
      apply Oz.walk_cons rfl
      · intro w1 hb hu hd ho K hK
        clear hu hd ho
        have hfull : Below w3.heap.size w3 w1 := HBR.out.drew.trans (hb.mono HBR.out.size)
        have c0 := (hfull.cell (cell_lt g0)).trans g0
        have c1 := (hfull.cell (cell_lt g1)).trans g1
        have c2 := (hfull.cell (cell_lt g2)).trans g2
        clear hfull
        go_simp
        exact hK _ _ (Oz.good_same rfl rfl rfl)
      · intro v; simp only [Act.put, List.setIfInBounds_toArray, List.set_cons_succ, List.set_cons_zero]; exact rfl
      · intro v; exact (rfl : _ = ([x98, x99, x100, v] : List Value))
      intro x101
      apply Oz.walk_cons rfl
      · intro w1 hb hu hd ho K hK
        have h100 := hd 2 (by kernel_rfl)
        have e101 : _ = x101 := Eq.symm (hd 3 (by kernel_rfl))
        subst e101
        have hbw : Below w.heap.size w w1 := HW3.out.trans ((HBR.out.drew.trans (hb.mono HBR.out.size)).mono HW3.out.size)
        clear hu hd ho
        go_simp
        refine (HJ.out 14 _ _ w1 (by decide) hbw HE14.out h100).mono ?_
        rintro e w2 ⟨rfl, hb2⟩
        go_simp
        exact hK _ _ (Oz.good_below rfl rfl hb2 rfl)
      · intro v; simp only [Act.put, List.setIfInBounds_toArray, List.set_cons_succ, List.set_cons_zero]; exact rfl
      · intro v; exact (rfl : _ = ([x98, x99, x100, x101, v] : List Value))
      intro x102
      apply Oz.walk_cons rfl
      · intro w1 hb hu hd ho K hK
        have e102 : _ = x102 := Eq.symm (hd 4 (by kernel_rfl))
        subst e102
        clear hu hd ho
        go_simp
        exact hK _ _ (Oz.good_same rfl rfl rfl)
      · intro v; simp only [Act.put, List.setIfInBounds_toArray, List.set_cons_succ, List.set_cons_zero]; exact rfl
      · intro v; exact (rfl : _ = ([x98, x99, x100, x101, x102, v] : List Value))
      intro x97
      apply Oz.walk_cons rfl
      · intro w1 hb hu hd ho K hK
        have e97 : _ = x97 := Eq.symm (hd 5 (by kernel_rfl))
        subst e97
        clear hu hd ho
        go_simp
        exact hK _ _ (Oz.good_same rfl rfl rfl)
      · intro v; simp only [Act.put, List.setIfInBounds_toArray, List.set_cons_succ, List.set_cons_zero]; exact rfl
      · intro v; exact (rfl : _ = ([x98, x99, x100, x101, x102, x97, v] : List Value))
      intro x103
      apply Oz.walk_cons rfl
      · intro w1 hb hu hd ho K hK
        have e97 : _ = x97 := Eq.symm (hd 5 (by kernel_rfl))
        subst e97
        clear hu hd ho
        go_simp
        exact hK _ _ (Oz.good_same rfl rfl rfl)
      · intro v; simp only [Act.put, List.setIfInBounds_toArray, List.set_cons_succ, List.set_cons_zero]; exact rfl
      · intro v; exact (rfl : _ = ([x98, x99, x100, x101, x102, x97, x103, v] : List Value))
      intro x104
      apply Oz.walk_cons rfl
      · intro w1 hb hu hd ho K hK
        have hz := hb.size
        clear hu hd ho
        go_simp
        exact hK _ _ (Oz.good_box (b0 := 0) rfl (Nat.zero_le _) hz rfl)
      · intro v; simp only [Act.put, List.setIfInBounds_toArray, List.set_cons_succ, List.set_cons_zero]; exact rfl
      · intro v; exact (rfl : _ = ([x98, x99, x100, x101, x102, x97, x103, x104, v] : List Value))
      intro x20
      apply Oz.walk_cons rfl
      · intro w1 hb hu hd ho K hK
        have h20 := hd 8 (by kernel_rfl)
        have e103 : _ = x103 := Eq.symm (hd 6 (by kernel_rfl))
        subst e103
        have hz := hb.size
        have hoo := ho 8 (by kernel_rfl) rfl
        obtain ⟨b, rfl, hb0, hh⟩ := h20
        have dq0 : w1.cell? ⟨b, 0, none⟩ = some (.int .i64 0) := by simp [World.cell?, hh]
        have fq0 : w1.frozen? ⟨b, 0, none⟩ = false := by simp [World.frozen?, hh]
        have dq1 : w1.cell? ⟨b, 1, none⟩ = some (.int .i64 0) := by simp [World.cell?, hh]
        have fq1 : w1.frozen? ⟨b, 1, none⟩ = false := by simp [World.frozen?, hh]
        have dq2 : w1.cell? ⟨b, 2, none⟩ = some (.int .i64 0) := by simp [World.cell?, hh]
        have fq2 : w1.frozen? ⟨b, 2, none⟩ = false := by simp [World.frozen?, hh]
        have kq0 := heap_setCell_same _ _ 0 _ _ (.int .i64 qk) hh
        have kq1 := heap_setCell_same _ _ 1 _ _ (.int .i64 qa) kq0
        have kq2 := heap_setCell_same _ _ 2 _ _ (.int .i64 qb) kq1
        clear hu hd ho
        go_simp
        exact hK undef _ (Oz.good_put (k := 8) (cs := #[.int .i64 qk, .int .i64 qa, .int .i64 qb]) rfl rfl hb0 hz (Oz.setAll_grown b [.int .i64 qk, .int .i64 qa, .int .i64 qb] 0 w1) rfl kq2 hoo)
      · intro v; exact rfl
      · intro v; exact (rfl : _ = ([x98, x99, x100, x101, x102, x97, x103, x104, x20, x20] : List Value))
      intro xn9
      apply Oz.walk_cons rfl
      · intro w1 hb hu hd ho K hK
        have e104 : _ = x104 := Eq.symm (hd 7 (by kernel_rfl))
        subst e104
        clear hu hd ho
        go_simp
        exact hK _ _ (Oz.good_same rfl rfl rfl)
      · intro v; simp only [Act.put, List.setIfInBounds_toArray, List.set_cons_succ, List.set_cons_zero]; exact rfl
      · intro v; exact (rfl : _ = ([x98, x99, x100, x101, x102, x97, x103, x104, x20, x20, v] : List Value))
      intro x21
      refine Oz.walk_nil rfl (fun w1 hb hu hd => ?_)
      have e98 : _ = x98 := Eq.symm (hd 0 (by kernel_rfl))
      subst e98
      have e99 : _ = x99 := Eq.symm (hd 1 (by kernel_rfl))
      subst e99
      have h100 := hd 2 (by kernel_rfl)
      have e101 : _ = x101 := Eq.symm (hd 3 (by kernel_rfl))
      subst e101
      have e102 : _ = x102 := Eq.symm (hd 4 (by kernel_rfl))
      subst e102
      have e97 : _ = x97 := Eq.symm (hd 5 (by kernel_rfl))
      subst e97
      have e103 : _ = x103 := Eq.symm (hd 6 (by kernel_rfl))
      subst e103
      have e104 : _ = x104 := Eq.symm (hd 7 (by kernel_rfl))
      subst e104
      have hn9 := hd 9 (by kernel_rfl)
      have e21 : _ = x21 := Eq.symm (hd 10 (by kernel_rfl))
      subst e21
      clear hd hu
      have HBN := Lib.hid (HBR.out.drew.trans (hb.mono HBR.out.size))
      have fle_ := (hb.cell (cell_lt fle)).trans fle
      have fgt_ := (hb.cell (cell_lt fgt)).trans fgt
      clear fle fgt
      have fle := fle_
      have fgt := fgt_
      clear fle_ fgt_
      obtain ⟨bx, rfl, _, hh⟩ := hn9
      obtain ⟨r0, r1, r2, _⟩ := at3 hh
      clear hb hh
      go_simp
      obtain ⟨wC, hwq⟩ : ∃ W, W = w1 := ⟨_, rfl⟩
      subst hwq
      clear HBR
      have HBR := HBN
      clear HBN
      have fq := r1
      clear r0 r1 r2
      go_wp2_with fail
      refine Oz.region_own' 172 [Ow.eqR (.slice A a.length ca), Ow.eqR (.slice B b.length cb), fun v w' => w'.ownsRow 0 41 3 v (a ++ b ++ [opC 15]).length (flat (a ++ b ++ [opC 15])), Ow.eqR (.agg #[.slice V vs.length vc, .slice X xs.length xc, .slice S ss.length sc]), Ow.eqR (.tuple #[.agg #[.int .i64 mk, .int .i64 ma, .int .i64 mb], .int .i64 me]), Ow.eqR (.tuple #[.agg #[.int .i64 mk, .int .i64 ma, .int .i64 mb], .int .i64 me]), Ow.eqR (.agg #[.int .i64 mk, .int .i64 ma, .int .i64 mb]), Ow.eqR (.int .i64 me), Oz.BoxR (0) 23 #[.int .i64 0, .int .i64 0, .int .i64 0], Oz.BoxR (0) 23 #[.int .i64 mk, .int .i64 ma, .int .i64 mb], Ow.eqR (.int .i64 me)] [false, false, true, false, false, false, false, false, true, true, false] [none, none, none, none, none, none, none, none, none, some 8, none] (by kernel_rfl) rfl (by kernel_rfl) ⟨Oz.keeps_eq _ _, Oz.keeps_eq _ _, Oz.keeps_own _ _ _ _ _, Oz.keeps_eq _ _, Oz.keeps_eq _ _, Oz.keeps_eq _ _, Oz.keeps_eq _ _, Oz.keeps_eq _ _, Oz.keeps_box _ _ _, Oz.keeps_box _ _ _, Oz.keeps_eq _ _, trivial⟩ ?_
      apply Oz.walk_cons rfl
      · intro w1 hb hu hd ho K hK
        clear hu hd ho
        go_simp
        exact hK _ _ (Oz.good_same rfl rfl rfl)
      · intro v; simp only [Act.put, List.setIfInBounds_toArray, List.set_cons_succ, List.set_cons_zero]; exact rfl
      · intro v; exact (rfl : _ = ([v] : List Value))
      intro x106
      apply Oz.walk_cons rfl
      · intro w1 hb hu hd ho K hK
        clear hu hd ho
        go_simp
        exact hK _ _ (Oz.good_same rfl rfl rfl)
      · intro v; simp only [Act.put, List.setIfInBounds_toArray, List.set_cons_succ, List.set_cons_zero]; exact rfl
      · intro v; exact (rfl : _ = ([x106, v] : List Value))
      intro x107
      apply Oz.walk_cons rfl
      · intro w1 hb hu hd ho K hK
        have e106 : _ = x106 := Eq.symm (hd 0 (by kernel_rfl))
        subst e106
        have e107 : _ = x107 := Eq.symm (hd 1 (by kernel_rfl))
        subst e107
        have hz := hb.size
        have hbw : Below w.heap.size w w1 := HW3.out.trans ((HBR.out.drew.trans (hb.mono HBR.out.size)).mono HW3.out.size)
        clear hu hd ho
        go_simp
        refine (HJN.out 15 w1 hbw).mono ?_
        rintro e w2 ⟨v, rfl, hown, hb2⟩
        go_simp
        exact hK _ _ (Oz.good_new rfl hz hb2 (own_low hown (Nat.zero_le _)) (fun g hg => hown.lt g ((Oz.own_slice hown).symm.trans hg)))
      · intro v; simp only [Act.put, List.setIfInBounds_toArray, List.set_cons_succ, List.set_cons_zero]; exact rfl
      · intro v; exact (rfl : _ = ([x106, x107, v] : List Value))
      intro x108
      apply Oz.walk_cons rfl
      · intro w1 hb hu hd ho K hK
        clear hu hd ho
        have hfull : Below w3.heap.size w3 w1 := HBR.out.drew.trans (hb.mono HBR.out.size)
        have c0 := (hfull.cell (cell_lt g0)).trans g0
        have c1 := (hfull.cell (cell_lt g1)).trans g1
        have c2 := (hfull.cell (cell_lt g2)).trans g2
        clear hfull
        go_simp
        exact hK _ _ (Oz.good_same rfl rfl rfl)
      · intro v; simp only [Act.put, List.setIfInBounds_toArray, List.set_cons_succ, List.set_cons_zero]; exact rfl
      · intro v; exact (rfl : _ = ([x106, x107, x108, v] : List Value))
      intro x109
      apply Oz.walk_cons rfl
      · intro w1 hb hu hd ho K hK
        have h108 := hd 2 (by kernel_rfl)
        have e109 : _ = x109 := Eq.symm (hd 3 (by kernel_rfl))
        subst e109
        have hbw : Below w.heap.size w w1 := HW3.out.trans ((HBR.out.drew.trans (hb.mono HBR.out.size)).mono HW3.out.size)
        clear hu hd ho
        go_simp
        refine (HJ.out 15 _ _ w1 (by decide) hbw HE15.out h108).mono ?_
        rintro e w2 ⟨rfl, hb2⟩
        go_simp
        exact hK _ _ (Oz.good_below rfl rfl hb2 rfl)
      · intro v; simp only [Act.put, List.setIfInBounds_toArray, List.set_cons_succ, List.set_cons_zero]; exact rfl
      · intro v; exact (rfl : _ = ([x106, x107, x108, x109, v] : List Value))
      intro x110
      apply Oz.walk_cons rfl
      · intro w1 hb hu hd ho K hK
        have e110 : _ = x110 := Eq.symm (hd 4 (by kernel_rfl))
        subst e110
        clear hu hd ho
        go_simp
        exact hK _ _ (Oz.good_same rfl rfl rfl)
      · intro v; simp only [Act.put, List.setIfInBounds_toArray, List.set_cons_succ, List.set_cons_zero]; exact rfl
      · intro v; exact (rfl : _ = ([x106, x107, x108, x109, x110, v] : List Value))
      intro x105
      apply Oz.walk_cons rfl
      · intro w1 hb hu hd ho K hK
        have e105 : _ = x105 := Eq.symm (hd 5 (by kernel_rfl))
        subst e105
        clear hu hd ho
        go_simp
        exact hK _ _ (Oz.good_same rfl rfl rfl)
      · intro v; simp only [Act.put, List.setIfInBounds_toArray, List.set_cons_succ, List.set_cons_zero]; exact rfl
      · intro v; exact (rfl : _ = ([x106, x107, x108, x109, x110, x105, v] : List Value))
      intro x111
      apply Oz.walk_cons rfl
      · intro w1 hb hu hd ho K hK
        have e105 : _ = x105 := Eq.symm (hd 5 (by kernel_rfl))
        subst e105
        clear hu hd ho
        go_simp
        exact hK _ _ (Oz.good_same rfl rfl rfl)
      · intro v; simp only [Act.put, List.setIfInBounds_toArray, List.set_cons_succ, List.set_cons_zero]; exact rfl
      · intro v; exact (rfl : _ = ([x106, x107, x108, x109, x110, x105, x111, v] : List Value))
      intro x112
      apply Oz.walk_cons rfl
      · intro w1 hb hu hd ho K hK
        have hz := hb.size
        clear hu hd ho
        go_simp
        exact hK _ _ (Oz.good_box (b0 := 0) rfl (Nat.zero_le _) hz rfl)
      · intro v; simp only [Act.put, List.setIfInBounds_toArray, List.set_cons_succ, List.set_cons_zero]; exact rfl
      · intro v; exact (rfl : _ = ([x106, x107, x108, x109, x110, x105, x111, x112, v] : List Value))
      intro x22
      apply Oz.walk_cons rfl
      · intro w1 hb hu hd ho K hK
        have h22 := hd 8 (by kernel_rfl)
        have e111 : _ = x111 := Eq.symm (hd 6 (by kernel_rfl))
        subst e111
        have hz := hb.size
        have hoo := ho 8 (by kernel_rfl) rfl
        obtain ⟨b, rfl, hb0, hh⟩ := h22
        have dq0 : w1.cell? ⟨b, 0, none⟩ = some (.int .i64 0) := by simp [World.cell?, hh]
        have fq0 : w1.frozen? ⟨b, 0, none⟩ = false := by simp [World.frozen?, hh]
        have dq1 : w1.cell? ⟨b, 1, none⟩ = some (.int .i64 0) := by simp [World.cell?, hh]
        have fq1 : w1.frozen? ⟨b, 1, none⟩ = false := by simp [World.frozen?, hh]
        have dq2 : w1.cell? ⟨b, 2, none⟩ = some (.int .i64 0) := by simp [World.cell?, hh]
        have fq2 : w1.frozen? ⟨b, 2, none⟩ = false := by simp [World.frozen?, hh]
        have kq0 := heap_setCell_same _ _ 0 _ _ (.int .i64 mk) hh
        have kq1 := heap_setCell_same _ _ 1 _ _ (.int .i64 ma) kq0
        have kq2 := heap_setCell_same _ _ 2 _ _ (.int .i64 mb) kq1
        clear hu hd ho
        go_simp
        exact hK undef _ (Oz.good_put (k := 8) (cs := #[.int .i64 mk, .int .i64 ma, .int .i64 mb]) rfl rfl hb0 hz (Oz.setAll_grown b [.int .i64 mk, .int .i64 ma, .int .i64 mb] 0 w1) rfl kq2 hoo)
      · intro v; exact rfl
      · intro v; exact (rfl : _ = ([x106, x107, x108, x109, x110, x105, x111, x112, x22, x22] : List Value))
      intro xn9
      apply Oz.walk_cons rfl
      · intro w1 hb hu hd ho K hK
        have e112 : _ = x112 := Eq.symm (hd 7 (by kernel_rfl))
        subst e112
        clear hu hd ho
        go_simp
        exact hK _ _ (Oz.good_same rfl rfl rfl)
      · intro v; simp only [Act.put, List.setIfInBounds_toArray, List.set_cons_succ, List.set_cons_zero]; exact rfl
      · intro v; exact (rfl : _ = ([x106, x107, x108, x109, x110, x105, x111, x112, x22, x22, v] : List Value))
      intro x23
      refine Oz.walk_nil rfl (fun w1 hb hu hd => ?_)
      have e106 : _ = x106 := Eq.symm (hd 0 (by kernel_rfl))
      subst e106
      have e107 : _ = x107 := Eq.symm (hd 1 (by kernel_rfl))
      subst e107
      have h108 := hd 2 (by kernel_rfl)
      have e109 : _ = x109 := Eq.symm (hd 3 (by kernel_rfl))
      subst e109
      have e110 : _ = x110 := Eq.symm (hd 4 (by kernel_rfl))
      subst e110
      have e105 : _ = x105 := Eq.symm (hd 5 (by kernel_rfl))
      subst e105
      have e111 : _ = x111 := Eq.symm (hd 6 (by kernel_rfl))
      subst e111
      have e112 : _ = x112 := Eq.symm (hd 7 (by kernel_rfl))
      subst e112
      have hn9 := hd 9 (by kernel_rfl)
      have e23 : _ = x23 := Eq.symm (hd 10 (by kernel_rfl))
      subst e23
      clear hd hu
      have HBN := Lib.hid (HBR.out.drew.trans (hb.mono HBR.out.size))
      have fle_ := (hb.cell (cell_lt fle)).trans fle
      have fgt_ := (hb.cell (cell_lt fgt)).trans fgt
      have fq_ := (hb.cell (cell_lt fq)).trans fq
      clear fle fgt fq
      have fle := fle_
      have fgt := fgt_
      have fq := fq_
      clear fle_ fgt_ fq_
      obtain ⟨bx, rfl, _, hh⟩ := hn9
      obtain ⟨r0, r1, r2, _⟩ := at3 hh
      clear hb hh
      go_simp
      obtain ⟨wD, hwq⟩ : ∃ W, W = w1 := ⟨_, rfl⟩
      subst hwq
      clear HBR
      have HBR := HBN
      clear HBN
      have fm := r1
      clear r0 r1 r2
      have fx := (HBR.out.cell (cell_lt hx1)).trans hx1
      have fy := (HBR.out.cell (cell_lt hy1)).trans hy1
      have HBF := Lib.hid (HW3.out.trans (HBR.out.mono HW3.out.size))
      have hqm := HQM.out
      clear g0 g1 g2 hx0 hx1 hy0 hy1 HJ HJN HQM hw1 hw2 hw3 HE18 HE16 HE20 HE19 HE14 HE15
      rcases hqm with ⟨rfl, rfl, rfl⟩ | ⟨hy, rfl, rfl⟩ | ⟨hy, rfl, rfl, hm1, hm2, hm3⟩
      · go_wp2
        go_ret
        exact ⟨rfl, HBF.out⟩
      · have ty := int_ne hy
        go_wp2
        go_ret
        exact ⟨rfl, HBF.out⟩
      · have ty := int_ne hy
        generalize hpp : qa * ya = p at *
        by_cases hm0 : ma = 0
        · subst hm0
          have hpx : p = xa := by rw [Int.add_zero, hm1] at hm2; exact hm2
          subst hpx
          clear hm2 hm3
          go_wp2
          go_ret
          exact ⟨rfl, HBF.out⟩
        · have tm := int_ne hm0
          have hms : ma < 0 ↔ xa < 0 := hm3.resolve_left hm0
          rcases dec2 (ma < 0) with ⟨c1, t1⟩ | ⟨c1, t1⟩
          · have t2 : decide (xa < 0) = true := decide_eq_true (hms.1 c1)
            clear hms hm3 c1
            go_wp2
            go_ret
            exact ⟨rfl, HBF.out⟩
          · have t2 : decide (xa < 0) = false := decide_eq_false (fun h => c1 (hms.2 h))
            clear hms hm3 c1
            go_wp2
            go_ret
            exact ⟨rfl, HBF.out⟩
end Go.Proofs.Ytpidikbhjiaogaa
