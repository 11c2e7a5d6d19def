/- The law KindsParts walked. -/
import Derived.Test.YtkpacigbhghcpaaKj
namespace Go.Proofs.Ytkpacigbhghcpaa
open Go.RowKit

theorem right_len {cs : List CM} (h : rightB cs = true) : cs.length ≤ 32 := by unfold rightB at h; simp at h; exact h.1
theorem joinK_ok {o a b : Int} (h : (joinK o a b).2 = 0) : a = b := by
  unfold joinK at h
  by_cases e : a = b
  · exact e
  · rw [if_pos e] at h; cases h

/-- the parts of an expression that has a kind -/
theorem kind_parts {vs : List VM} {ss : List (List UInt8)} {cs : List CM} (h : (kindP vs ss cs).2 = 0) :
    (∃ c, cs = [c] ∧ operN c.op = 0) ∨
    (∃ sub o, cs = sub ++ [opC o] ∧ operN o = 1 ∧ 1 ≤ sub.length ∧ begN sub.reverse 1 = sub.length ∧ (kindP vs ss sub).2 = 0) ∨
    (∃ l r o, cs = l ++ r ++ [opC o] ∧ operN o = 2 ∧ 1 ≤ l.length ∧ 1 ≤ r.length ∧ begN (l ++ r).reverse 1 = r.length ∧ (kindP vs ss l).2 = 0 ∧ (kindP vs ss r).2 = 0 ∧ (kindP vs ss l).1 = (kindP vs ss r).1) := by
  have hr := kind_right h
  have hl := right_len hr
  obtain ⟨t, ht, rfl⟩ := right_tree hr
  rw [kind_tree ht hl] at h
  cases t with
  | leaf c => exact Or.inl ⟨c, rfl, ht.2⟩
  | un o t =>
    have hp := post_pos t
    have hl' : (post t).length ≤ 32 := by simp [post] at hl; omega
    have hk : (kT vs ss t).2 = 0 := by
      by_cases e : (kT vs ss t).2 = 0
      · exact e
      · have : kT vs ss (.un o t) = (0, (kT vs ss t).2) := if_pos e
        rw [this] at h; exact absurd h e
    refine Or.inr (Or.inl ⟨post t, o, rfl, operN_un ⟨ht.1, ht.2.1⟩, hp, ?_, by rw [kind_tree ht.2.2 hl']; exact hk⟩)
    have := beg_tree ht.2.2 [] 0
    rw [List.append_nil, if_pos rfl] at this
    exact this
  | bin o l r =>
    have hp := post_pos l
    have hp2 := post_pos r
    have hl1 : (post l).length ≤ 32 := by simp [post] at hl; omega
    have hl2 : (post r).length ≤ 32 := by simp [post] at hl; omega
    have hk : (kT vs ss l).2 = 0 := by
      by_cases e : (kT vs ss l).2 = 0
      · exact e
      · have : kT vs ss (.bin o l r) = (0, (kT vs ss l).2) := if_pos e
        rw [this] at h; exact absurd h e
    have hk1 : ¬ (kT vs ss l).2 ≠ 0 := fun e => e hk
    have hk2 : (kT vs ss r).2 = 0 := by
      by_cases e : (kT vs ss r).2 = 0
      · exact e
      · have : kT vs ss (.bin o l r) = (0, (kT vs ss r).2) := (if_neg hk1).trans (if_pos e)
        rw [this] at h; exact absurd h e
    have hk3 : ¬ (kT vs ss r).2 ≠ 0 := fun e => e hk2
    have hj : kT vs ss (.bin o l r) = joinK o (kT vs ss l).1 (kT vs ss r).1 := (if_neg hk1).trans (if_neg hk3)
    rw [hj] at h
    refine Or.inr (Or.inr ⟨post l, post r, o, rfl, operN_bin ⟨ht.1, ht.2.1⟩, hp, hp2, ?_, by rw [kind_tree ht.2.2.1 hl1]; exact hk, by rw [kind_tree ht.2.2.2 hl2]; exact hk2, by rw [kind_tree ht.2.2.1 hl1, kind_tree ht.2.2.2 hl2]; exact joinK_ok h⟩)
    rw [List.reverse_append, beg_tree ht.2.2.2, if_pos rfl]

theorem RdC.sub {w : World} {b o n c : Nat} {cs : List CM} (h : RdC w (.slice (some ⟨b, o, none⟩) n c) cs) (p m : Nat) (hm : p + m ≤ cs.length) (c' : Nat) : RdC w (.slice (some ⟨b, o + p * 3, none⟩) m c') ((cs.drop p).take m) := by
  obtain ⟨A, c0, e, hr⟩ := h
  simp only [Value.slice.injEq] at e
  obtain ⟨rfl, _, _⟩ := e
  have hl : ((cs.drop p).take m).length = m := by simp; omega
  refine ⟨some ⟨b, o + p * 3, none⟩, c', by rw [hl], fun i hi => ?_⟩
  rw [hl] at hi
  obtain ⟨b', o', e, d0, d1, d2⟩ := hr (p + i) (by omega)
  simp only [Option.some.injEq, Addr.mk.injEq, and_true] at e
  obtain ⟨rfl, rfl⟩ := e
  have hg : ((cs.drop p).take m)[i] = cs[p + i] := by simp
  refine ⟨b, o + p * 3, rfl, ?_⟩
  rw [hg]
  have e1 : o + p * 3 + i * 3 = o + (p + i) * 3 := by omega
  rw [e1]
  exact ⟨d0, d1, d2⟩

set_option maxRecDepth 100000 in
set_option maxHeartbeats 4000000 in
theorem kindsParts_law (vl vv sv : Value) (cs : List CM) (vs : List VM) (ss : List (List UInt8)) (w : World) (hR : RdI w vl cs) (hcap : ∀ A n c, vl = .slice A n c → n ≤ c) (hl1 : cs.length * 32 ≤ 140737488355328) (hV : RdV w vv vs) (hS : RdW w sv ss)
    (hvl : vs.length * 64 ≤ 140737488355328) (hsl : ss.length * 16 ≤ 140737488355328) :
    Calls Try.prog 5 #[vl, .agg #[vv, sv]] w fun e w' => e = .returned (.bool true) ∧ Below w.heap.size w w' := by
  obtain ⟨V, vc, rfl⟩ := hV.form
  obtain ⟨S, sc, rfl⟩ := hS.form
  have HCA : Hid (∀ W, Below w.heap.size w W → Calls Try.prog 9 #[vl] W fun e w' => ∃ v', e = .returned v' ∧ Own W cs v' w') := fun W hb => copied4_any vl cs W (hR.below hb) hl1
  have HKO : Hid (∀ W, Below w.heap.size w W → ∀ l : List CM, l.length ≤ 4611686018427387904 → ∀ x, RdC W x l → Calls Try.prog 8 #[x, .slice V vs.length vc, .slice S ss.length sc] W fun e w' => e = .returned (.tuple #[.int .i64 (kindP vs ss l).1, .int .i64 (kindP vs ss l).2]) ∧ Below W.heap.size W w') := fun W hb l hll x hx => kindsOf_any x _ _ l vs ss W hx hll (hV.below hb) (by omega) (hS.below hb) (by omega)
  have HK1 : Hid (∀ W, Below w.heap.size w W → ∀ x, RdC W x cs → Calls Try.prog 8 #[x, .slice V vs.length vc, .slice S ss.length sc] W fun e w' => e = .returned (.tuple #[.int .i64 (kindP vs ss cs).1, .int .i64 (kindP vs ss cs).2]) ∧ Below W.heap.size W w') := fun W hb => HKO.out W hb cs (by omega)
  obtain ⟨wb, hwb⟩ : ∃ wb, wb = (w.alloc (.cells #[.slice V vs.length vc, .slice S ss.length sc] 26)) := ⟨_, rfl⟩
  have HB0 : Hid (Below w.heap.size w wb) := by rw [hwb]; exact (Below.refl _ _).alloc (Nat.le_refl _) _
  have c50 : wb.cell? ⟨w.heap.size, 0, none⟩ = some (.slice V vs.length vc) := by rw [hwb]; simp
  have c51 : wb.cell? ⟨w.heap.size, 1, none⟩ = some (.slice S ss.length sc) := by rw [hwb]; simp
  have HE := Lib.hid hwb
  have HRI := Lib.hid hR
  have HCAP := Lib.hid hcap
  clear hR hV hS hwb hcap
  go_enter Try.func5, Try.ntmps5
  go_wp2_with fail
  rw [← HE.out]
  clear HE
  have HW : Hid (∀ w1, Below wb.heap.size wb.drew w1 → Below w.heap.size w w1) := fun w1 hb => HB0.out.trans (((Below.refl _ _).drew.trans hb).mono HB0.out.size)
  refine Ow.region_own' 89 [Ow.eqR (vl), fun v w' => w'.ownsRow 0 38 3 v (cs).length (flat (cs)), Ow.eqR (.pointer (some ⟨w.heap.size, 0, none⟩)), Ow.eqR (.slice V vs.length vc), Ow.eqR (.pointer (some ⟨w.heap.size, 1, none⟩)), Ow.eqR (.slice S ss.length sc), Ow.eqR (.tuple #[.int .i64 (kindP vs ss cs).1, .int .i64 (kindP vs ss cs).2]), Ow.eqR (.tuple #[.int .i64 (kindP vs ss cs).1, .int .i64 (kindP vs ss cs).2]), Ow.eqR (.int .i64 (kindP vs ss cs).1), Ow.eqR (.int .i64 (kindP vs ss cs).2), Ow.eqR (.int .i64 (kindP vs ss cs).1), Ow.eqR (.int .i64 (kindP vs ss cs).2)] [false, true, false, false, false, false, false, false, false, false, false, false] [none, none, none, none, none, none, none, none, none, none, none, none] (by kernel_rfl) rfl (by kernel_rfl) ⟨Ow.keeps_eq _ _, Ow.keeps_own _ _ _ _ _, Ow.keeps_eq _ _, Ow.keeps_eq _ _, Ow.keeps_eq _ _, Ow.keeps_eq _ _, Ow.keeps_eq _ _, Ow.keeps_eq _ _, Ow.keeps_eq _ _, Ow.keeps_eq _ _, Ow.keeps_eq _ _, Ow.keeps_eq _ _, trivial⟩ ?_
  apply Ow.walk_cons rfl
  · intro w1 hb hd ho K hK
    clear hd ho
    go_simp
    exact hK _ _ (Ow.good_same rfl rfl rfl)
  · intro v; simp only [Act.put, List.setIfInBounds_toArray, List.set_cons_succ, List.set_cons_zero]; exact rfl
  · intro v; simp only [List.nil_append]; exact rfl
  intro x13
  apply Ow.walk_cons rfl
  · intro w1 hb hd ho K hK
    have e13 : _ = x13 := Eq.symm (hd 0 (by kernel_rfl))
    subst e13
    have hz := hb.size
    clear hd ho
    go_simp
    refine (HCA.out w1 (HW.out w1 hb)).mono ?_
    rintro e w2 ⟨v, rfl, hv⟩
    go_simp
    exact hK _ _ (Ow.good_new rfl hz hv.below (own_low hv.own (Nat.zero_le _)) (fun g hg => hv.own.lt g hg))
  · intro v; simp only [Act.put, List.setIfInBounds_toArray, List.set_cons_succ, List.set_cons_zero]; exact rfl
  · intro v; simp only [List.nil_append, List.cons_append]; exact rfl
  intro x14
  apply Ow.walk_cons rfl
  · intro w1 hb hd ho K hK
    clear hd ho
    go_simp
    exact hK _ _ (Ow.good_same rfl rfl rfl)
  · intro v; simp only [Act.put, List.setIfInBounds_toArray, List.set_cons_succ, List.set_cons_zero]; exact rfl
  · intro v; simp only [List.nil_append, List.cons_append]; exact rfl
  intro x15
  apply Ow.walk_cons rfl
  · intro w1 hb hd ho K hK
    have e15 : _ = x15 := Eq.symm (hd 2 (by kernel_rfl))
    subst e15
    clear hd ho
    have c0 : w1.cell? ⟨w.heap.size, 0, none⟩ = some (.slice V vs.length vc) := (hb.cell (cell_lt c50)).trans c50
    go_simp
    exact hK _ _ (Ow.good_same rfl rfl rfl)
  · intro v; simp only [Act.put, List.setIfInBounds_toArray, List.set_cons_succ, List.set_cons_zero]; exact rfl
  · intro v; simp only [List.nil_append, List.cons_append]; exact rfl
  intro x16
  apply Ow.walk_cons rfl
  · intro w1 hb hd ho K hK
    clear hd ho
    go_simp
    exact hK _ _ (Ow.good_same rfl rfl rfl)
  · intro v; simp only [Act.put, List.setIfInBounds_toArray, List.set_cons_succ, List.set_cons_zero]; exact rfl
  · intro v; simp only [List.nil_append, List.cons_append]; exact rfl
  intro x17
  apply Ow.walk_cons rfl
  · intro w1 hb hd ho K hK
    have e17 : _ = x17 := Eq.symm (hd 4 (by kernel_rfl))
    subst e17
    clear hd ho
    have c0 : w1.cell? ⟨w.heap.size, 1, none⟩ = some (.slice S ss.length sc) := (hb.cell (cell_lt c51)).trans c51
    go_simp
    exact hK _ _ (Ow.good_same rfl rfl rfl)
  · intro v; simp only [Act.put, List.setIfInBounds_toArray, List.set_cons_succ, List.set_cons_zero]; exact rfl
  · intro v; simp only [List.nil_append, List.cons_append]; exact rfl
  intro x18
  apply Ow.walk_cons rfl
  · intro w1 hb hd ho K hK
    have h14 := hd 1 (by kernel_rfl)
    have e16 : _ = x16 := Eq.symm (hd 3 (by kernel_rfl))
    subst e16
    have e18 : _ = x18 := Eq.symm (hd 5 (by kernel_rfl))
    subst e18
    clear ho
    clear hd
    go_simp
    refine (HK1.out w1 (HW.out w1 hb) _ (own_rd h14)).mono ?_
    rintro e w2 ⟨rfl, hb2⟩
    go_simp
    exact hK _ _ (Ow.good_below rfl rfl hb2 rfl)
  · intro v; simp only [Act.put, List.setIfInBounds_toArray, List.set_cons_succ, List.set_cons_zero]; exact rfl
  · intro v; simp only [List.nil_append, List.cons_append]; exact rfl
  intro x19
  apply Ow.walk_cons rfl
  · intro w1 hb hd ho K hK
    have e19 : _ = x19 := Eq.symm (hd 6 (by kernel_rfl))
    subst e19
    clear hd ho
    go_simp
    exact hK _ _ (Ow.good_same rfl rfl rfl)
  · intro v; simp only [Act.put, List.setIfInBounds_toArray, List.set_cons_succ, List.set_cons_zero]; exact rfl
  · intro v; simp only [List.nil_append, List.cons_append]; exact rfl
  intro x12
  apply Ow.walk_cons rfl
  · intro w1 hb hd ho K hK
    have e12 : _ = x12 := Eq.symm (hd 7 (by kernel_rfl))
    subst e12
    clear hd ho
    go_simp
    exact hK _ _ (Ow.good_same rfl rfl rfl)
  · intro v; simp only [Act.put, List.setIfInBounds_toArray, List.set_cons_succ, List.set_cons_zero]; exact rfl
  · intro v; simp only [List.nil_append, List.cons_append]; exact rfl
  intro x20
  apply Ow.walk_cons rfl
  · intro w1 hb hd ho K hK
    have e12 : _ = x12 := Eq.symm (hd 7 (by kernel_rfl))
    subst e12
    clear hd ho
    go_simp
    exact hK _ _ (Ow.good_same rfl rfl rfl)
  · intro v; simp only [Act.put, List.setIfInBounds_toArray, List.set_cons_succ, List.set_cons_zero]; exact rfl
  · intro v; simp only [List.nil_append, List.cons_append]; exact rfl
  intro x21
  apply Ow.walk_cons rfl
  · intro w1 hb hd ho K hK
    have e20 : _ = x20 := Eq.symm (hd 8 (by kernel_rfl))
    subst e20
    clear hd ho
    go_simp
    exact hK _ _ (Ow.good_same rfl rfl rfl)
  · intro v; simp only [Act.put, List.setIfInBounds_toArray, List.set_cons_succ, List.set_cons_zero]; exact rfl
  · intro v; simp only [List.nil_append, List.cons_append]; exact rfl
  intro x5
  apply Ow.walk_cons rfl
  · intro w1 hb hd ho K hK
    have e21 : _ = x21 := Eq.symm (hd 9 (by kernel_rfl))
    subst e21
    clear hd ho
    go_simp
    exact hK _ _ (Ow.good_same rfl rfl rfl)
  · intro v; simp only [Act.put, List.setIfInBounds_toArray, List.set_cons_succ, List.set_cons_zero]; exact rfl
  · intro v; simp only [List.nil_append, List.cons_append]; exact rfl
  intro x6
  refine Ow.walk_nil rfl (fun w1 hb hd => ?_)
  have e13 : _ = x13 := Eq.symm (hd 0 (by kernel_rfl))
  subst e13
  have h14 := hd 1 (by kernel_rfl)
  have e15 : _ = x15 := Eq.symm (hd 2 (by kernel_rfl))
  subst e15
  have e16 : _ = x16 := Eq.symm (hd 3 (by kernel_rfl))
  subst e16
  have e17 : _ = x17 := Eq.symm (hd 4 (by kernel_rfl))
  subst e17
  have e18 : _ = x18 := Eq.symm (hd 5 (by kernel_rfl))
  subst e18
  have e19 : _ = x19 := Eq.symm (hd 6 (by kernel_rfl))
  subst e19
  have e12 : _ = x12 := Eq.symm (hd 7 (by kernel_rfl))
  subst e12
  have e20 : _ = x20 := Eq.symm (hd 8 (by kernel_rfl))
  subst e20
  have e21 : _ = x21 := Eq.symm (hd 9 (by kernel_rfl))
  subst e21
  have e5 : _ = x5 := Eq.symm (hd 10 (by kernel_rfl))
  subst e5
  have e6 : _ = x6 := Eq.symm (hd 11 (by kernel_rfl))
  subst e6
  clear hd
  have HB1 : Hid (Below w.heap.size w w1) := HW.out w1 hb
  have c50' : w1.cell? ⟨w.heap.size, 0, none⟩ = some (.slice V vs.length vc) := (hb.cell (cell_lt c50)).trans c50
  have c51' : w1.cell? ⟨w.heap.size, 1, none⟩ = some (.slice S ss.length sc) := (hb.cell (cell_lt c51)).trans c51
  clear hb HW h14 c50 c51
  have c50 := c50'; clear c50'
  have c51 := c51'; clear c51'
  go_simp
  go_wp2_with fail
  refine (wakes4_any _).mono ?_
  rintro e w3 ⟨rfl, hb3⟩
  have HB3 := Lib.hid (HB1.out.trans (hb3.mono HB1.out.size))
  have d50 := (hb3.cell (cell_lt c50)).trans c50
  have d51 := (hb3.cell (cell_lt c51)).trans c51
  clear hb3 c50 c51
  by_cases hok : (kindP vs ss cs).2 = 0
  · have HOK := Lib.hid hok
    have hright := kind_right hok
    have hl32 := right_len hright
    have hfs := Lib.hid (right_formed hright)
    have hcl : 1 ≤ cs.length := by
      rcases kind_parts hok with ⟨c, rfl, _⟩ | ⟨sub, o, rfl, _⟩ | ⟨l, r, o, rfl, _⟩ <;> simp <;> omega
    obtain ⟨m, hm⟩ : ∃ m, cs.length = m + 1 := ⟨cs.length - 1, by omega⟩
    rcases HRI.out with ⟨rfl, h0⟩ | ⟨ad, c, rfl, hrd⟩
    · subst h0; simp at hcl
    obtain ⟨A0, c0, e0, hr⟩ := hrd
    simp only [Value.slice.injEq] at e0
    obtain ⟨rfl, _, rfl⟩ := e0
    obtain ⟨b, o, hbo, e0, e1, e2⟩ := hr m (by omega)
    obtain rfl := Option.some.inj hbo
    have hcm := HCAP.out _ _ _ rfl
    obtain ⟨cc, hcc⟩ : ∃ cc, cs[m]'(by omega) = cc := ⟨_, rfl⟩
    have hfm := hfs.out _ (List.getElem_mem (show m < cs.length by omega))
    rw [hcc] at e0 e1 e2 hfm
    obtain ⟨X, hX, hXl⟩ := bstr_some cc.nm
    rw [hX] at e2
    have hops := fun W => refOperands_any cc W (by have := formed_name hfm; omega)
    rw [hX, opsR_yes hfm] at hops
    have HRD : Hid (∀ W, Below w.heap.size w W → RdC W (.slice (some ⟨b, o, none⟩) cs.length c) cs) := fun W hb => RdC.below ⟨_, _, rfl, hr⟩ hb
    have HM := Lib.hid hm
    rw [hm] at HRD HCA hcm hl32 hl1 ⊢
    have HFS := hfs
    rcases kind_parts hok with ⟨c', hcs, hn⟩ | ⟨sub, o', hcs, hn, hsl1, hbg, hks⟩ | ⟨l, r, o', hcs, hn, hl1', hr1, hbg, hkl, hkr, hkk⟩
    · have hm0 : m = 0 := by rw [hcs] at hm; simpa using hm
      subst hm0
      simp only [Nat.zero_mul, Nat.add_zero] at e0 e1 e2
      have hop0 : operN cc.op = 0 := by rw [← hcc]; simp only [hcs]; exact hn
      rw [hop0] at hops
      have HOPS := Lib.hid hops
      have f0 := (HB3.out.cell (cell_lt e0)).trans e0
      have f1 := (HB3.out.cell (cell_lt e1)).trans e1
      have f2 := (HB3.out.cell (cell_lt e2)).trans e2
      clear hops hop0 hcs hn hm hok hright hcl hr hcc hX hXl hfm e0 e1 e2 hbo
      rw [HOK.out]
      go_wp2_with fail
      refine (HOPS.out _).mono ?_
      rintro e w4 ⟨rfl, hb4⟩
      have HB4 := Lib.hid (HB3.out.trans (hb4.mono HB3.out.size))
      clear hb4
      go_wp2
      go_ret
      exact ⟨rfl, HB4.out⟩
    · obtain ⟨p, hp⟩ : ∃ p : Nat, p = 0 := ⟨_, rfl⟩
      have hml : sub.length = m := by have h := congrArg List.length hcs; rw [hm] at h; simp at h; omega
      have hop0 : operN cc.op = 1 := by rw [← hcc]; simp [hcs, hml]; exact hn
      rw [hop0] at hops
      have HOPS := Lib.hid hops
      have hsub : (cs.drop p).take (m - p) = sub := by rw [hp, hcs]; simp [← hml]
      have htk : cs.take (m - 1 + 1) = sub := by rw [show m - 1 + 1 = sub.length by omega, hcs, List.take_left]
      have hbeg := fun W (hb : Below w.heap.size w W) => begin_any _ cs W (HRD.out W hb) HFS.out (by omega) p (m - 1) (by omega) (by omega) (by rw [htk, hbg, hp]; omega)
      rw [show ((m - 1 : Nat) : Int) = (m : Int) + 1 - 2 by omega] at hbeg
      have HBEG := Lib.hid hbeg
      have HCS : Hid (∀ W, Below w.heap.size w W → Calls Try.prog 9 #[.slice (some ⟨b, o + p * 3, none⟩) (m - p) (c - p)] W fun e w' => ∃ v', e = .returned v' ∧ Own W sub v' w') := fun W hb => by
        have h := (HRD.out W hb).sub p (m - p) (by omega) (c - p)
        rw [hsub] at h
        have hv : (.slice (some ⟨b, o + p * 3, none⟩) (m - p) (c - p) : Value) = .slice (some ⟨b, o + p * 3, none⟩) sub.length (c - p) := by rw [show m - p = sub.length by omega]
        exact copied4_any _ sub W (Or.inr ⟨_, _, hv, h⟩) (by omega)
      have HK2 : Hid (∀ W, Below w.heap.size w W → ∀ x, RdC W x sub → Calls Try.prog 8 #[x, .slice V vs.length vc, .slice S ss.length sc] W fun e w' => e = .returned (.tuple #[.int .i64 (kindP vs ss sub).1, .int .i64 (kindP vs ss sub).2]) ∧ Below W.heap.size W w') := fun W hb => HKO.out W hb sub (by omega)
      have HKS := Lib.hid hks
      have hpm : p < m := by omega
      have f0 := (HB3.out.cell (cell_lt e0)).trans e0
      have f1 := (HB3.out.cell (cell_lt e1)).trans e1
      have f2 := (HB3.out.cell (cell_lt e2)).trans e2
      clear hops hop0 hcs hn hm hok hright hcl hr hcc hX hXl hfm e0 e1 e2 hbo hbeg htk hsub hml hks hbg hp HKO hsl1
      rw [HOK.out]
      go_wp2_with fail
      refine (HOPS.out _).mono ?_
      rintro e w4 ⟨rfl, hb4⟩
      have HB4 := Lib.hid (HB3.out.trans (hb4.mono HB3.out.size))
      have g0 := (hb4.cell (cell_lt f0)).trans f0
      have g1 := (hb4.cell (cell_lt f1)).trans f1
      have g2 := (hb4.cell (cell_lt f2)).trans f2
      have g50 := (hb4.cell (cell_lt d50)).trans d50
      have g51 := (hb4.cell (cell_lt d51)).trans d51
      clear hb4 f0 f1 f2 d50 d51
      go_wp2_with fail
      refine (HBEG.out _ HB4.out).mono ?_
      rintro e w5 ⟨rfl, hb5⟩
      have HB5 := Lib.hid (HB4.out.trans (hb5.mono HB4.out.size))
      have f0 := (hb5.cell (cell_lt g0)).trans g0
      have f1 := (hb5.cell (cell_lt g1)).trans g1
      have f2 := (hb5.cell (cell_lt g2)).trans g2
      have d50 := (hb5.cell (cell_lt g50)).trans g50
      have d51 := (hb5.cell (cell_lt g51)).trans g51
      clear hb5 g0 g1 g2 g50 g51
      go_wp2_with fail
      have HW : Hid (∀ w1, Below w5.heap.size w5.drew w1 → Below w.heap.size w w1) := fun w1 hb => HB5.out.trans (((Below.refl _ _).drew.trans hb).mono HB5.out.size)
      refine Ow.region_own' 89 [Ow.eqR (.slice (some ⟨b, o, none⟩) (m + 1) c), Ow.eqR (.int .i64 (p : Int)), Ow.eqR (.slice (some ⟨b, o, none⟩) (m + 1) c), Ow.eqR (.int .i64 ((m : Int) + 1)), Ow.eqR (.int .i64 (m : Int)), Ow.eqR (.slice (some ⟨b, o + p * 3, none⟩) (m - p) (c - p)), fun v w' => w'.ownsRow 0 38 3 v (sub).length (flat (sub)), Ow.eqR (.pointer (some ⟨w.heap.size, 0, none⟩)), Ow.eqR (.slice V vs.length vc), Ow.eqR (.pointer (some ⟨w.heap.size, 1, none⟩)), Ow.eqR (.slice S ss.length sc), Ow.eqR (.tuple #[.int .i64 (kindP vs ss sub).1, .int .i64 (kindP vs ss sub).2]), Ow.eqR (.tuple #[.int .i64 (kindP vs ss sub).1, .int .i64 (kindP vs ss sub).2]), Ow.eqR (.int .i64 (kindP vs ss sub).1), Ow.eqR (.int .i64 (kindP vs ss sub).2), Ow.eqR (.int .i64 (kindP vs ss sub).1), Ow.eqR (.int .i64 (kindP vs ss sub).2)] [false, false, false, false, false, false, true, false, false, false, false, false, false, false, false, false, false] [none, none, none, none, none, none, none, none, none, none, none, none, none, none, none, none, none] (by kernel_rfl) rfl (by kernel_rfl) ⟨Ow.keeps_eq _ _, Ow.keeps_eq _ _, Ow.keeps_eq _ _, Ow.keeps_eq _ _, Ow.keeps_eq _ _, Ow.keeps_eq _ _, Ow.keeps_own _ _ _ _ _, Ow.keeps_eq _ _, Ow.keeps_eq _ _, Ow.keeps_eq _ _, Ow.keeps_eq _ _, Ow.keeps_eq _ _, Ow.keeps_eq _ _, Ow.keeps_eq _ _, Ow.keeps_eq _ _, Ow.keeps_eq _ _, Ow.keeps_eq _ _, trivial⟩ ?_
      apply Ow.walk_cons rfl
      · intro w1 hb hd ho K hK
        clear hd ho
        go_simp
        exact hK _ _ (Ow.good_same rfl rfl rfl)
      · intro v; simp only [Act.put, List.setIfInBounds_toArray, List.set_cons_succ, List.set_cons_zero]; exact rfl
      · intro v; simp only [List.nil_append]; exact rfl
      intro x42
      apply Ow.walk_cons rfl
      · intro w1 hb hd ho K hK
        clear hd ho
        go_simp
        exact hK _ _ (Ow.good_same rfl rfl rfl)
      · intro v; simp only [Act.put, List.setIfInBounds_toArray, List.set_cons_succ, List.set_cons_zero]; exact rfl
      · intro v; simp only [List.nil_append, List.cons_append]; exact rfl
      intro x43
      apply Ow.walk_cons rfl
      · intro w1 hb hd ho K hK
        clear hd ho
        go_simp
        exact hK _ _ (Ow.good_same rfl rfl rfl)
      · intro v; simp only [Act.put, List.setIfInBounds_toArray, List.set_cons_succ, List.set_cons_zero]; exact rfl
      · intro v; simp only [List.nil_append, List.cons_append]; exact rfl
      intro x44
      apply Ow.walk_cons rfl
      · intro w1 hb hd ho K hK
        have e44 : _ = x44 := Eq.symm (hd 2 (by kernel_rfl))
        subst e44
        clear hd ho
        go_simp
        exact hK _ _ (Ow.good_same rfl rfl rfl)
      · intro v; simp only [Act.put, List.setIfInBounds_toArray, List.set_cons_succ, List.set_cons_zero]; exact rfl
      · intro v; simp only [List.nil_append, List.cons_append]; exact rfl
      intro x45
      apply Ow.walk_cons rfl
      · intro w1 hb hd ho K hK
        have e45 : _ = x45 := Eq.symm (hd 3 (by kernel_rfl))
        subst e45
        clear hd ho
        have hwr : IntKind.i64.wrap ((m : Int) + 1 - 1) = (m : Int) := by rw [IntWalk.i64_in _ (by omega)]; omega
        have hwr2 : IntKind.i64.wrap (m : Int) = (m : Int) := IntWalk.i64_in _ (by omega)
        go_simp
        exact hK _ _ (Ow.good_same rfl rfl rfl)
      · intro v; simp only [Act.put, List.setIfInBounds_toArray, List.set_cons_succ, List.set_cons_zero]; exact rfl
      · intro v; simp only [List.nil_append, List.cons_append]; exact rfl
      intro x46
      apply Ow.walk_cons rfl
      · intro w1 hb hd ho K hK
        have e42 : _ = x42 := Eq.symm (hd 0 (by kernel_rfl))
        subst e42
        have e43 : _ = x43 := Eq.symm (hd 1 (by kernel_rfl))
        subst e43
        have e46 : _ = x46 := Eq.symm (hd 4 (by kernel_rfl))
        subst e46
        clear hd ho
        have hq0 : (0 : Int) ≤ (p : Int) := by omega
        have hq1 : (p : Int) ≤ (m : Int) := by omega
        have hq2 : (m : Int) ≤ (c : Int) := by omega
        go_simp
        exact hK _ _ (Ow.good_same rfl rfl (by show _ = _; rw [if_neg (by omega)]))
      · intro v; simp only [Act.put, List.setIfInBounds_toArray, List.set_cons_succ, List.set_cons_zero]; exact rfl
      · intro v; simp only [List.nil_append, List.cons_append]; exact rfl
      intro x47
      apply Ow.walk_cons rfl
      · intro w1 hb hd ho K hK
        have e47 : _ = x47 := Eq.symm (hd 5 (by kernel_rfl))
        subst e47
        have hz := hb.size
        clear hd ho
        go_simp
        refine (HCS.out w1 (HW.out w1 hb)).mono ?_
        rintro e w2 ⟨v, rfl, hv⟩
        go_simp
        exact hK _ _ (Ow.good_new rfl hz hv.below (own_low hv.own (Nat.zero_le _)) (fun g hg => hv.own.lt g hg))
      · intro v; simp only [Act.put, List.setIfInBounds_toArray, List.set_cons_succ, List.set_cons_zero]; exact rfl
      · intro v; simp only [List.nil_append, List.cons_append]; exact rfl
      intro x48
      apply Ow.walk_cons rfl
      · intro w1 hb hd ho K hK
        clear hd ho
        go_simp
        exact hK _ _ (Ow.good_same rfl rfl rfl)
      · intro v; simp only [Act.put, List.setIfInBounds_toArray, List.set_cons_succ, List.set_cons_zero]; exact rfl
      · intro v; simp only [List.nil_append, List.cons_append]; exact rfl
      intro x49
      apply Ow.walk_cons rfl
      · intro w1 hb hd ho K hK
        have e49 : _ = x49 := Eq.symm (hd 7 (by kernel_rfl))
        subst e49
        clear hd ho
        have c0 : w1.cell? ⟨w.heap.size, 0, none⟩ = some (.slice V vs.length vc) := (hb.cell (cell_lt d50)).trans d50
        go_simp
        exact hK _ _ (Ow.good_same rfl rfl rfl)
      · intro v; simp only [Act.put, List.setIfInBounds_toArray, List.set_cons_succ, List.set_cons_zero]; exact rfl
      · intro v; simp only [List.nil_append, List.cons_append]; exact rfl
      intro x50
      apply Ow.walk_cons rfl
      · intro w1 hb hd ho K hK
        clear hd ho
        go_simp
        exact hK _ _ (Ow.good_same rfl rfl rfl)
      · intro v; simp only [Act.put, List.setIfInBounds_toArray, List.set_cons_succ, List.set_cons_zero]; exact rfl
      · intro v; simp only [List.nil_append, List.cons_append]; exact rfl
      intro x51
      apply Ow.walk_cons rfl
      · intro w1 hb hd ho K hK
        have e51 : _ = x51 := Eq.symm (hd 9 (by kernel_rfl))
        subst e51
        clear hd ho
        have c0 : w1.cell? ⟨w.heap.size, 1, none⟩ = some (.slice S ss.length sc) := (hb.cell (cell_lt d51)).trans d51
        go_simp
        exact hK _ _ (Ow.good_same rfl rfl rfl)
      · intro v; simp only [Act.put, List.setIfInBounds_toArray, List.set_cons_succ, List.set_cons_zero]; exact rfl
      · intro v; simp only [List.nil_append, List.cons_append]; exact rfl
      intro x52
      apply Ow.walk_cons rfl
      · intro w1 hb hd ho K hK
        have h48 := hd 6 (by kernel_rfl)
        have e50 : _ = x50 := Eq.symm (hd 8 (by kernel_rfl))
        subst e50
        have e52 : _ = x52 := Eq.symm (hd 10 (by kernel_rfl))
        subst e52
        clear ho
        clear hd
        go_simp
        refine (HK2.out w1 (HW.out w1 hb) _ (own_rd h48)).mono ?_
        rintro e w2 ⟨rfl, hb2⟩
        go_simp
        exact hK _ _ (Ow.good_below rfl rfl hb2 rfl)
      · intro v; simp only [Act.put, List.setIfInBounds_toArray, List.set_cons_succ, List.set_cons_zero]; exact rfl
      · intro v; simp only [List.nil_append, List.cons_append]; exact rfl
      intro x53
      apply Ow.walk_cons rfl
      · intro w1 hb hd ho K hK
        have e53 : _ = x53 := Eq.symm (hd 11 (by kernel_rfl))
        subst e53
        clear hd ho
        go_simp
        exact hK _ _ (Ow.good_same rfl rfl rfl)
      · intro v; simp only [Act.put, List.setIfInBounds_toArray, List.set_cons_succ, List.set_cons_zero]; exact rfl
      · intro v; simp only [List.nil_append, List.cons_append]; exact rfl
      intro x41
      apply Ow.walk_cons rfl
      · intro w1 hb hd ho K hK
        have e41 : _ = x41 := Eq.symm (hd 12 (by kernel_rfl))
        subst e41
        clear hd ho
        go_simp
        exact hK _ _ (Ow.good_same rfl rfl rfl)
      · intro v; simp only [Act.put, List.setIfInBounds_toArray, List.set_cons_succ, List.set_cons_zero]; exact rfl
      · intro v; simp only [List.nil_append, List.cons_append]; exact rfl
      intro x54
      apply Ow.walk_cons rfl
      · intro w1 hb hd ho K hK
        have e41 : _ = x41 := Eq.symm (hd 12 (by kernel_rfl))
        subst e41
        clear hd ho
        go_simp
        exact hK _ _ (Ow.good_same rfl rfl rfl)
      · intro v; simp only [Act.put, List.setIfInBounds_toArray, List.set_cons_succ, List.set_cons_zero]; exact rfl
      · intro v; simp only [List.nil_append, List.cons_append]; exact rfl
      intro x55
      apply Ow.walk_cons rfl
      · intro w1 hb hd ho K hK
        have e54 : _ = x54 := Eq.symm (hd 13 (by kernel_rfl))
        subst e54
        clear hd ho
        go_simp
        exact hK _ _ (Ow.good_same rfl rfl rfl)
      · intro v; simp only [Act.put, List.setIfInBounds_toArray, List.set_cons_succ, List.set_cons_zero]; exact rfl
      · intro v; simp only [List.nil_append, List.cons_append]; exact rfl
      intro x8
      apply Ow.walk_cons rfl
      · intro w1 hb hd ho K hK
        have e55 : _ = x55 := Eq.symm (hd 14 (by kernel_rfl))
        subst e55
        clear hd ho
        go_simp
        exact hK _ _ (Ow.good_same rfl rfl rfl)
      · intro v; simp only [Act.put, List.setIfInBounds_toArray, List.set_cons_succ, List.set_cons_zero]; exact rfl
      · intro v; simp only [List.nil_append, List.cons_append]; exact rfl
      intro x9
      refine Ow.walk_nil rfl (fun w1 hb hd => ?_)
      have e42 : _ = x42 := Eq.symm (hd 0 (by kernel_rfl))
      subst e42
      have e43 : _ = x43 := Eq.symm (hd 1 (by kernel_rfl))
      subst e43
      have e44 : _ = x44 := Eq.symm (hd 2 (by kernel_rfl))
      subst e44
      have e45 : _ = x45 := Eq.symm (hd 3 (by kernel_rfl))
      subst e45
      have e46 : _ = x46 := Eq.symm (hd 4 (by kernel_rfl))
      subst e46
      have e47 : _ = x47 := Eq.symm (hd 5 (by kernel_rfl))
      subst e47
      have h48 := hd 6 (by kernel_rfl)
      have e49 : _ = x49 := Eq.symm (hd 7 (by kernel_rfl))
      subst e49
      have e50 : _ = x50 := Eq.symm (hd 8 (by kernel_rfl))
      subst e50
      have e51 : _ = x51 := Eq.symm (hd 9 (by kernel_rfl))
      subst e51
      have e52 : _ = x52 := Eq.symm (hd 10 (by kernel_rfl))
      subst e52
      have e53 : _ = x53 := Eq.symm (hd 11 (by kernel_rfl))
      subst e53
      have e41 : _ = x41 := Eq.symm (hd 12 (by kernel_rfl))
      subst e41
      have e54 : _ = x54 := Eq.symm (hd 13 (by kernel_rfl))
      subst e54
      have e55 : _ = x55 := Eq.symm (hd 14 (by kernel_rfl))
      subst e55
      have e8 : _ = x8 := Eq.symm (hd 15 (by kernel_rfl))
      subst e8
      have e9 : _ = x9 := Eq.symm (hd 16 (by kernel_rfl))
      subst e9
      clear hd
      have k0 : w1.cell? ⟨b, o + m * 3, none⟩ = some (.int .i64 cc.op) := (hb.cell (cell_lt f0)).trans f0
      have k1 : w1.cell? ⟨b, o + m * 3 + 1, none⟩ = some (.int .i64 cc.a) := (hb.cell (cell_lt f1)).trans f1
      have k2 : w1.cell? ⟨b, o + m * 3 + 2, none⟩ = some (.string X) := (hb.cell (cell_lt f2)).trans f2
      have HB6 : Hid (Below w.heap.size w w1) := HW.out w1 hb
      have d50' : w1.cell? ⟨w.heap.size, 0, none⟩ = some (.slice V vs.length vc) := (hb.cell (cell_lt d50)).trans d50
      have d51' : w1.cell? ⟨w.heap.size, 1, none⟩ = some (.slice S ss.length sc) := (hb.cell (cell_lt d51)).trans d51
      clear hb HW h48 f0 f1 f2 d50 d51
      have d50 := d50'; clear d50'
      have d51 := d51'; clear d51'
      go_simp
      go_wp2_with fail
      refine (HOPS.out _).mono ?_
      rintro e w7 ⟨rfl, hb7⟩
      have HB7 := Lib.hid (HB6.out.trans (hb7.mono HB6.out.size))
      clear hb7 d50 d51 k0 k1 k2
      rw [HKS.out]
      go_wp2
      go_ret
      exact ⟨rfl, HB7.out⟩
    · obtain ⟨p, hp⟩ : ∃ p : Nat, p = l.length := ⟨_, rfl⟩
      have hml : l.length + r.length = m := by have h := congrArg List.length hcs; rw [hm] at h; simp at h; omega
      have hlast : cs[m]'(by omega) = opC o' := by
        simp only [hcs]
        rw [List.getElem_append_right (by simp; omega), List.getElem_singleton]
      have hop0 : operN cc.op = 2 := by rw [← hcc, hlast]; exact hn
      rw [hop0] at hops
      have HOPS := Lib.hid hops
      have hsub : (cs.drop p).take (m - p) = r := by
        rw [hp, hcs, List.append_assoc, List.drop_left, show m - l.length = r.length by omega, List.take_left]
      have hsub2 : (cs.drop 0).take p = l := by
        rw [hp, hcs, List.append_assoc, List.drop_zero, List.take_left]
      have htk : cs.take (m - 1 + 1) = l ++ r := by
        rw [show m - 1 + 1 = (l ++ r).length by simp; omega, hcs, List.take_left]
      have hbeg := fun W (hb : Below w.heap.size w W) => begin_any _ cs W (HRD.out W hb) HFS.out (by omega) p (m - 1) (by omega) (by omega) (by rw [htk, hbg, hp]; omega)
      rw [show ((m - 1 : Nat) : Int) = (m : Int) + 1 - 2 by omega] at hbeg
      have HBEG := Lib.hid hbeg
      have HCS : Hid (∀ W, Below w.heap.size w W → Calls Try.prog 9 #[.slice (some ⟨b, o + p * 3, none⟩) (m - p) (c - p)] W fun e w' => ∃ v', e = .returned v' ∧ Own W r v' w') := fun W hb => by
        have h := (HRD.out W hb).sub p (m - p) (by omega) (c - p)
        rw [hsub] at h
        have hv : (.slice (some ⟨b, o + p * 3, none⟩) (m - p) (c - p) : Value) = .slice (some ⟨b, o + p * 3, none⟩) r.length (c - p) := by rw [show m - p = r.length by omega]
        exact copied4_any _ r W (Or.inr ⟨_, _, hv, h⟩) (by omega)
      have HCS2 : Hid (∀ W, Below w.heap.size w W → Calls Try.prog 9 #[.slice (some ⟨b, o, none⟩) p c] W fun e w' => ∃ v', e = .returned v' ∧ Own W l v' w') := fun W hb => by
        have h := (HRD.out W hb).sub 0 p (by omega) c
        rw [hsub2, Nat.zero_mul, Nat.add_zero] at h
        have hv : (.slice (some ⟨b, o, none⟩) p c : Value) = .slice (some ⟨b, o, none⟩) l.length c := by rw [hp]
        exact copied4_any _ l W (Or.inr ⟨_, _, hv, h⟩) (by omega)
      have HK2 : Hid (∀ W, Below w.heap.size w W → ∀ x, RdC W x r → Calls Try.prog 8 #[x, .slice V vs.length vc, .slice S ss.length sc] W fun e w' => e = .returned (.tuple #[.int .i64 (kindP vs ss r).1, .int .i64 (kindP vs ss r).2]) ∧ Below W.heap.size W w') := fun W hb => HKO.out W hb r (by omega)
      have HK3 : Hid (∀ W, Below w.heap.size w W → ∀ x, RdC W x l → Calls Try.prog 8 #[x, .slice V vs.length vc, .slice S ss.length sc] W fun e w' => e = .returned (.tuple #[.int .i64 (kindP vs ss l).1, .int .i64 (kindP vs ss l).2]) ∧ Below W.heap.size W w') := fun W hb => HKO.out W hb l (by omega)
      have HKR := Lib.hid hkr
      have HKL := Lib.hid hkl
      have HKK := Lib.hid hkk
      have hpm : p < m := by omega
      have f0 := (HB3.out.cell (cell_lt e0)).trans e0
      have f1 := (HB3.out.cell (cell_lt e1)).trans e1
      have f2 := (HB3.out.cell (cell_lt e2)).trans e2
      clear hops hop0 hlast hcs hn hm hok hright hcl hr hcc hX hXl hfm e0 e1 e2 hbo hbeg htk hsub hsub2 hml hkl hkr hkk hbg hp HKO hl1' hr1
      rw [HOK.out]
      go_wp2_with fail
      refine (HOPS.out _).mono ?_
      rintro e w4 ⟨rfl, hb4⟩
      have HB4 := Lib.hid (HB3.out.trans (hb4.mono HB3.out.size))
      have g0 := (hb4.cell (cell_lt f0)).trans f0
      have g1 := (hb4.cell (cell_lt f1)).trans f1
      have g2 := (hb4.cell (cell_lt f2)).trans f2
      have g50 := (hb4.cell (cell_lt d50)).trans d50
      have g51 := (hb4.cell (cell_lt d51)).trans d51
      clear hb4 f0 f1 f2 d50 d51
      go_wp2_with fail
      refine (HBEG.out _ HB4.out).mono ?_
      rintro e w5 ⟨rfl, hb5⟩
      have HB5 := Lib.hid (HB4.out.trans (hb5.mono HB4.out.size))
      have f0 := (hb5.cell (cell_lt g0)).trans g0
      have f1 := (hb5.cell (cell_lt g1)).trans g1
      have f2 := (hb5.cell (cell_lt g2)).trans g2
      have d50 := (hb5.cell (cell_lt g50)).trans g50
      have d51 := (hb5.cell (cell_lt g51)).trans g51
      clear hb5 g0 g1 g2 g50 g51
      go_wp2_with fail
      have HW : Hid (∀ w1, Below w5.heap.size w5.drew w1 → Below w.heap.size w w1) := fun w1 hb => HB5.out.trans (((Below.refl _ _).drew.trans hb).mono HB5.out.size)
      refine Ow.region_own' 89 [Ow.eqR (.slice (some ⟨b, o, none⟩) (m + 1) c), Ow.eqR (.int .i64 (p : Int)), Ow.eqR (.slice (some ⟨b, o, none⟩) (m + 1) c), Ow.eqR (.int .i64 ((m : Int) + 1)), Ow.eqR (.int .i64 (m : Int)), Ow.eqR (.slice (some ⟨b, o + p * 3, none⟩) (m - p) (c - p)), fun v w' => w'.ownsRow 0 38 3 v (r).length (flat (r)), Ow.eqR (.pointer (some ⟨w.heap.size, 0, none⟩)), Ow.eqR (.slice V vs.length vc), Ow.eqR (.pointer (some ⟨w.heap.size, 1, none⟩)), Ow.eqR (.slice S ss.length sc), Ow.eqR (.tuple #[.int .i64 (kindP vs ss r).1, .int .i64 (kindP vs ss r).2]), Ow.eqR (.tuple #[.int .i64 (kindP vs ss r).1, .int .i64 (kindP vs ss r).2]), Ow.eqR (.int .i64 (kindP vs ss r).1), Ow.eqR (.int .i64 (kindP vs ss r).2), Ow.eqR (.int .i64 (kindP vs ss r).1), Ow.eqR (.int .i64 (kindP vs ss r).2)] [false, false, false, false, false, false, true, false, false, false, false, false, false, false, false, false, false] [none, none, none, none, none, none, none, none, none, none, none, none, none, none, none, none, none] (by kernel_rfl) rfl (by kernel_rfl) ⟨Ow.keeps_eq _ _, Ow.keeps_eq _ _, Ow.keeps_eq _ _, Ow.keeps_eq _ _, Ow.keeps_eq _ _, Ow.keeps_eq _ _, Ow.keeps_own _ _ _ _ _, Ow.keeps_eq _ _, Ow.keeps_eq _ _, Ow.keeps_eq _ _, Ow.keeps_eq _ _, Ow.keeps_eq _ _, Ow.keeps_eq _ _, Ow.keeps_eq _ _, Ow.keeps_eq _ _, Ow.keeps_eq _ _, Ow.keeps_eq _ _, trivial⟩ ?_
      apply Ow.walk_cons rfl
      · intro w1 hb hd ho K hK
        clear hd ho
        go_simp
        exact hK _ _ (Ow.good_same rfl rfl rfl)
      · intro v; simp only [Act.put, List.setIfInBounds_toArray, List.set_cons_succ, List.set_cons_zero]; exact rfl
      · intro v; simp only [List.nil_append]; exact rfl
      intro x42
      apply Ow.walk_cons rfl
      · intro w1 hb hd ho K hK
        clear hd ho
        go_simp
        exact hK _ _ (Ow.good_same rfl rfl rfl)
      · intro v; simp only [Act.put, List.setIfInBounds_toArray, List.set_cons_succ, List.set_cons_zero]; exact rfl
      · intro v; simp only [List.nil_append, List.cons_append]; exact rfl
      intro x43
      apply Ow.walk_cons rfl
      · intro w1 hb hd ho K hK
        clear hd ho
        go_simp
        exact hK _ _ (Ow.good_same rfl rfl rfl)
      · intro v; simp only [Act.put, List.setIfInBounds_toArray, List.set_cons_succ, List.set_cons_zero]; exact rfl
      · intro v; simp only [List.nil_append, List.cons_append]; exact rfl
      intro x44
      apply Ow.walk_cons rfl
      · intro w1 hb hd ho K hK
        have e44 : _ = x44 := Eq.symm (hd 2 (by kernel_rfl))
        subst e44
        clear hd ho
        go_simp
        exact hK _ _ (Ow.good_same rfl rfl rfl)
      · intro v; simp only [Act.put, List.setIfInBounds_toArray, List.set_cons_succ, List.set_cons_zero]; exact rfl
      · intro v; simp only [List.nil_append, List.cons_append]; exact rfl
      intro x45
      apply Ow.walk_cons rfl
      · intro w1 hb hd ho K hK
        have e45 : _ = x45 := Eq.symm (hd 3 (by kernel_rfl))
        subst e45
        clear hd ho
        have hwr : IntKind.i64.wrap ((m : Int) + 1 - 1) = (m : Int) := by rw [IntWalk.i64_in _ (by omega)]; omega
        have hwr2 : IntKind.i64.wrap (m : Int) = (m : Int) := IntWalk.i64_in _ (by omega)
        go_simp
        exact hK _ _ (Ow.good_same rfl rfl rfl)
      · intro v; simp only [Act.put, List.setIfInBounds_toArray, List.set_cons_succ, List.set_cons_zero]; exact rfl
      · intro v; simp only [List.nil_append, List.cons_append]; exact rfl
      intro x46
      apply Ow.walk_cons rfl
      · intro w1 hb hd ho K hK
        have e42 : _ = x42 := Eq.symm (hd 0 (by kernel_rfl))
        subst e42
        have e43 : _ = x43 := Eq.symm (hd 1 (by kernel_rfl))
        subst e43
        have e46 : _ = x46 := Eq.symm (hd 4 (by kernel_rfl))
        subst e46
        clear hd ho
        have hq0 : (0 : Int) ≤ (p : Int) := by omega
        have hq1 : (p : Int) ≤ (m : Int) := by omega
        have hq2 : (m : Int) ≤ (c : Int) := by omega
        go_simp
        exact hK _ _ (Ow.good_same rfl rfl (by show _ = _; rw [if_neg (by omega)]))
      · intro v; simp only [Act.put, List.setIfInBounds_toArray, List.set_cons_succ, List.set_cons_zero]; exact rfl
      · intro v; simp only [List.nil_append, List.cons_append]; exact rfl
      intro x47
      apply Ow.walk_cons rfl
      · intro w1 hb hd ho K hK
        have e47 : _ = x47 := Eq.symm (hd 5 (by kernel_rfl))
        subst e47
        have hz := hb.size
        clear hd ho
        go_simp
        refine (HCS.out w1 (HW.out w1 hb)).mono ?_
        rintro e w2 ⟨v, rfl, hv⟩
        go_simp
        exact hK _ _ (Ow.good_new rfl hz hv.below (own_low hv.own (Nat.zero_le _)) (fun g hg => hv.own.lt g hg))
      · intro v; simp only [Act.put, List.setIfInBounds_toArray, List.set_cons_succ, List.set_cons_zero]; exact rfl
      · intro v; simp only [List.nil_append, List.cons_append]; exact rfl
      intro x48
      apply Ow.walk_cons rfl
      · intro w1 hb hd ho K hK
        clear hd ho
        go_simp
        exact hK _ _ (Ow.good_same rfl rfl rfl)
      · intro v; simp only [Act.put, List.setIfInBounds_toArray, List.set_cons_succ, List.set_cons_zero]; exact rfl
      · intro v; simp only [List.nil_append, List.cons_append]; exact rfl
      intro x49
      apply Ow.walk_cons rfl
      · intro w1 hb hd ho K hK
        have e49 : _ = x49 := Eq.symm (hd 7 (by kernel_rfl))
        subst e49
        clear hd ho
        have c0 : w1.cell? ⟨w.heap.size, 0, none⟩ = some (.slice V vs.length vc) := (hb.cell (cell_lt d50)).trans d50
        go_simp
        exact hK _ _ (Ow.good_same rfl rfl rfl)
      · intro v; simp only [Act.put, List.setIfInBounds_toArray, List.set_cons_succ, List.set_cons_zero]; exact rfl
      · intro v; simp only [List.nil_append, List.cons_append]; exact rfl
      intro x50
      apply Ow.walk_cons rfl
      · intro w1 hb hd ho K hK
        clear hd ho
        go_simp
        exact hK _ _ (Ow.good_same rfl rfl rfl)
      · intro v; simp only [Act.put, List.setIfInBounds_toArray, List.set_cons_succ, List.set_cons_zero]; exact rfl
      · intro v; simp only [List.nil_append, List.cons_append]; exact rfl
      intro x51
      apply Ow.walk_cons rfl
      · intro w1 hb hd ho K hK
        have e51 : _ = x51 := Eq.symm (hd 9 (by kernel_rfl))
        subst e51
        clear hd ho
        have c0 : w1.cell? ⟨w.heap.size, 1, none⟩ = some (.slice S ss.length sc) := (hb.cell (cell_lt d51)).trans d51
        go_simp
        exact hK _ _ (Ow.good_same rfl rfl rfl)
      · intro v; simp only [Act.put, List.setIfInBounds_toArray, List.set_cons_succ, List.set_cons_zero]; exact rfl
      · intro v; simp only [List.nil_append, List.cons_append]; exact rfl
      intro x52
      apply Ow.walk_cons rfl
      · intro w1 hb hd ho K hK
        have h48 := hd 6 (by kernel_rfl)
        have e50 : _ = x50 := Eq.symm (hd 8 (by kernel_rfl))
        subst e50
        have e52 : _ = x52 := Eq.symm (hd 10 (by kernel_rfl))
        subst e52
        clear ho
        clear hd
        go_simp
        refine (HK2.out w1 (HW.out w1 hb) _ (own_rd h48)).mono ?_
        rintro e w2 ⟨rfl, hb2⟩
        go_simp
        exact hK _ _ (Ow.good_below rfl rfl hb2 rfl)
      · intro v; simp only [Act.put, List.setIfInBounds_toArray, List.set_cons_succ, List.set_cons_zero]; exact rfl
      · intro v; simp only [List.nil_append, List.cons_append]; exact rfl
      intro x53
      apply Ow.walk_cons rfl
      · intro w1 hb hd ho K hK
        have e53 : _ = x53 := Eq.symm (hd 11 (by kernel_rfl))
        subst e53
        clear hd ho
        go_simp
        exact hK _ _ (Ow.good_same rfl rfl rfl)
      · intro v; simp only [Act.put, List.setIfInBounds_toArray, List.set_cons_succ, List.set_cons_zero]; exact rfl
      · intro v; simp only [List.nil_append, List.cons_append]; exact rfl
      intro x41
      apply Ow.walk_cons rfl
      · intro w1 hb hd ho K hK
        have e41 : _ = x41 := Eq.symm (hd 12 (by kernel_rfl))
        subst e41
        clear hd ho
        go_simp
        exact hK _ _ (Ow.good_same rfl rfl rfl)
      · intro v; simp only [Act.put, List.setIfInBounds_toArray, List.set_cons_succ, List.set_cons_zero]; exact rfl
      · intro v; simp only [List.nil_append, List.cons_append]; exact rfl
      intro x54
      apply Ow.walk_cons rfl
      · intro w1 hb hd ho K hK
        have e41 : _ = x41 := Eq.symm (hd 12 (by kernel_rfl))
        subst e41
        clear hd ho
        go_simp
        exact hK _ _ (Ow.good_same rfl rfl rfl)
      · intro v; simp only [Act.put, List.setIfInBounds_toArray, List.set_cons_succ, List.set_cons_zero]; exact rfl
      · intro v; simp only [List.nil_append, List.cons_append]; exact rfl
      intro x55
      apply Ow.walk_cons rfl
      · intro w1 hb hd ho K hK
        have e54 : _ = x54 := Eq.symm (hd 13 (by kernel_rfl))
        subst e54
        clear hd ho
        go_simp
        exact hK _ _ (Ow.good_same rfl rfl rfl)
      · intro v; simp only [Act.put, List.setIfInBounds_toArray, List.set_cons_succ, List.set_cons_zero]; exact rfl
      · intro v; simp only [List.nil_append, List.cons_append]; exact rfl
      intro x8
      apply Ow.walk_cons rfl
      · intro w1 hb hd ho K hK
        have e55 : _ = x55 := Eq.symm (hd 14 (by kernel_rfl))
        subst e55
        clear hd ho
        go_simp
        exact hK _ _ (Ow.good_same rfl rfl rfl)
      · intro v; simp only [Act.put, List.setIfInBounds_toArray, List.set_cons_succ, List.set_cons_zero]; exact rfl
      · intro v; simp only [List.nil_append, List.cons_append]; exact rfl
      intro x9
      refine Ow.walk_nil rfl (fun w1 hb hd => ?_)
      have e42 : _ = x42 := Eq.symm (hd 0 (by kernel_rfl))
      subst e42
      have e43 : _ = x43 := Eq.symm (hd 1 (by kernel_rfl))
      subst e43
      have e44 : _ = x44 := Eq.symm (hd 2 (by kernel_rfl))
      subst e44
      have e45 : _ = x45 := Eq.symm (hd 3 (by kernel_rfl))
      subst e45
      have e46 : _ = x46 := Eq.symm (hd 4 (by kernel_rfl))
      subst e46
      have e47 : _ = x47 := Eq.symm (hd 5 (by kernel_rfl))
      subst e47
      have h48 := hd 6 (by kernel_rfl)
      have e49 : _ = x49 := Eq.symm (hd 7 (by kernel_rfl))
      subst e49
      have e50 : _ = x50 := Eq.symm (hd 8 (by kernel_rfl))
      subst e50
      have e51 : _ = x51 := Eq.symm (hd 9 (by kernel_rfl))
      subst e51
      have e52 : _ = x52 := Eq.symm (hd 10 (by kernel_rfl))
      subst e52
      have e53 : _ = x53 := Eq.symm (hd 11 (by kernel_rfl))
      subst e53
      have e41 : _ = x41 := Eq.symm (hd 12 (by kernel_rfl))
      subst e41
      have e54 : _ = x54 := Eq.symm (hd 13 (by kernel_rfl))
      subst e54
      have e55 : _ = x55 := Eq.symm (hd 14 (by kernel_rfl))
      subst e55
      have e8 : _ = x8 := Eq.symm (hd 15 (by kernel_rfl))
      subst e8
      have e9 : _ = x9 := Eq.symm (hd 16 (by kernel_rfl))
      subst e9
      clear hd
      have k0 : w1.cell? ⟨b, o + m * 3, none⟩ = some (.int .i64 cc.op) := (hb.cell (cell_lt f0)).trans f0
      have k1 : w1.cell? ⟨b, o + m * 3 + 1, none⟩ = some (.int .i64 cc.a) := (hb.cell (cell_lt f1)).trans f1
      have k2 : w1.cell? ⟨b, o + m * 3 + 2, none⟩ = some (.string X) := (hb.cell (cell_lt f2)).trans f2
      have HB6 : Hid (Below w.heap.size w w1) := HW.out w1 hb
      have d50' : w1.cell? ⟨w.heap.size, 0, none⟩ = some (.slice V vs.length vc) := (hb.cell (cell_lt d50)).trans d50
      have d51' : w1.cell? ⟨w.heap.size, 1, none⟩ = some (.slice S ss.length sc) := (hb.cell (cell_lt d51)).trans d51
      clear hb HW h48 f0 f1 f2 d50 d51
      have d50 := d50'; clear d50'
      have d51 := d51'; clear d51'
      go_simp
      go_wp2_with fail
      refine (HOPS.out _).mono ?_
      rintro e w7 ⟨rfl, hb7⟩
      have HB7 := Lib.hid (HB6.out.trans (hb7.mono HB6.out.size))
      have c50 := (hb7.cell (cell_lt d50)).trans d50
      have c51 := (hb7.cell (cell_lt d51)).trans d51
      clear hb7 d50 d51 k0 k1 k2
      obtain ⟨we, hwe⟩ : ∃ we, we = w7 := ⟨_, rfl⟩
      rw [← hwe] at HB7 c50 c51 ⊢
      clear hwe
      go_wp2_with fail
      have HW : Hid (∀ w1, Below we.heap.size we.drew w1 → Below w.heap.size w w1) := fun w1 hb => HB7.out.trans (((Below.refl _ _).drew.trans hb).mono HB7.out.size)
      refine Ow.region_own' 89 [Ow.eqR (.slice (some ⟨b, o, none⟩) (m + 1) c), Ow.eqR (.int .i64 (p : Int)), Ow.eqR (.slice (some ⟨b, o, none⟩) p c), fun v w' => w'.ownsRow 0 38 3 v (l).length (flat (l)), Ow.eqR (.pointer (some ⟨w.heap.size, 0, none⟩)), Ow.eqR (.slice V vs.length vc), Ow.eqR (.pointer (some ⟨w.heap.size, 1, none⟩)), Ow.eqR (.slice S ss.length sc), Ow.eqR (.tuple #[.int .i64 (kindP vs ss l).1, .int .i64 (kindP vs ss l).2]), Ow.eqR (.tuple #[.int .i64 (kindP vs ss l).1, .int .i64 (kindP vs ss l).2]), Ow.eqR (.int .i64 (kindP vs ss l).1), Ow.eqR (.int .i64 (kindP vs ss l).2), Ow.eqR (.int .i64 (kindP vs ss l).1), Ow.eqR (.int .i64 (kindP vs ss l).2)] [false, false, false, true, false, false, false, false, false, false, false, false, false, false] [none, none, none, none, none, none, none, none, none, none, none, none, none, none] (by kernel_rfl) rfl (by kernel_rfl) ⟨Ow.keeps_eq _ _, Ow.keeps_eq _ _, Ow.keeps_eq _ _, Ow.keeps_own _ _ _ _ _, Ow.keeps_eq _ _, Ow.keeps_eq _ _, Ow.keeps_eq _ _, Ow.keeps_eq _ _, Ow.keeps_eq _ _, Ow.keeps_eq _ _, Ow.keeps_eq _ _, Ow.keeps_eq _ _, Ow.keeps_eq _ _, Ow.keeps_eq _ _, trivial⟩ ?_
      apply Ow.walk_cons rfl
      · intro w1 hb hd ho K hK
        clear hd ho
        go_simp
        exact hK _ _ (Ow.good_same rfl rfl rfl)
      · intro v; simp only [Act.put, List.setIfInBounds_toArray, List.set_cons_succ, List.set_cons_zero]; exact rfl
      · intro v; simp only [List.nil_append]; exact rfl
      intro x67
      apply Ow.walk_cons rfl
      · intro w1 hb hd ho K hK
        clear hd ho
        go_simp
        exact hK _ _ (Ow.good_same rfl rfl rfl)
      · intro v; simp only [Act.put, List.setIfInBounds_toArray, List.set_cons_succ, List.set_cons_zero]; exact rfl
      · intro v; simp only [List.nil_append, List.cons_append]; exact rfl
      intro x68
      apply Ow.walk_cons rfl
      · intro w1 hb hd ho K hK
        have e67 : _ = x67 := Eq.symm (hd 0 (by kernel_rfl))
        subst e67
        have e68 : _ = x68 := Eq.symm (hd 1 (by kernel_rfl))
        subst e68
        clear hd ho
        have hq0 : (0 : Int) ≤ (p : Int) := by omega
        have hq1 : (p : Int) ≤ (c : Int) := by omega
        go_simp
        exact hK _ _ (Ow.good_same rfl rfl rfl)
      · intro v; simp only [Act.put, List.setIfInBounds_toArray, List.set_cons_succ, List.set_cons_zero]; exact rfl
      · intro v; simp only [List.nil_append, List.cons_append]; exact rfl
      intro x69
      apply Ow.walk_cons rfl
      · intro w1 hb hd ho K hK
        have e69 : _ = x69 := Eq.symm (hd 2 (by kernel_rfl))
        subst e69
        have hz := hb.size
        clear hd ho
        go_simp
        refine (HCS2.out w1 (HW.out w1 hb)).mono ?_
        rintro e w2 ⟨v, rfl, hv⟩
        go_simp
        exact hK _ _ (Ow.good_new rfl hz hv.below (own_low hv.own (Nat.zero_le _)) (fun g hg => hv.own.lt g hg))
      · intro v; simp only [Act.put, List.setIfInBounds_toArray, List.set_cons_succ, List.set_cons_zero]; exact rfl
      · intro v; simp only [List.nil_append, List.cons_append]; exact rfl
      intro x70
      apply Ow.walk_cons rfl
      · intro w1 hb hd ho K hK
        clear hd ho
        go_simp
        exact hK _ _ (Ow.good_same rfl rfl rfl)
      · intro v; simp only [Act.put, List.setIfInBounds_toArray, List.set_cons_succ, List.set_cons_zero]; exact rfl
      · intro v; simp only [List.nil_append, List.cons_append]; exact rfl
      intro x71
      apply Ow.walk_cons rfl
      · intro w1 hb hd ho K hK
        have e71 : _ = x71 := Eq.symm (hd 4 (by kernel_rfl))
        subst e71
        clear hd ho
        have c0 : w1.cell? ⟨w.heap.size, 0, none⟩ = some (.slice V vs.length vc) := (hb.cell (cell_lt c50)).trans c50
        go_simp
        exact hK _ _ (Ow.good_same rfl rfl rfl)
      · intro v; simp only [Act.put, List.setIfInBounds_toArray, List.set_cons_succ, List.set_cons_zero]; exact rfl
      · intro v; simp only [List.nil_append, List.cons_append]; exact rfl
      intro x72
      apply Ow.walk_cons rfl
      · intro w1 hb hd ho K hK
        clear hd ho
        go_simp
        exact hK _ _ (Ow.good_same rfl rfl rfl)
      · intro v; simp only [Act.put, List.setIfInBounds_toArray, List.set_cons_succ, List.set_cons_zero]; exact rfl
      · intro v; simp only [List.nil_append, List.cons_append]; exact rfl
      intro x73
      apply Ow.walk_cons rfl
      · intro w1 hb hd ho K hK
        have e73 : _ = x73 := Eq.symm (hd 6 (by kernel_rfl))
        subst e73
        clear hd ho
        have c0 : w1.cell? ⟨w.heap.size, 1, none⟩ = some (.slice S ss.length sc) := (hb.cell (cell_lt c51)).trans c51
        go_simp
        exact hK _ _ (Ow.good_same rfl rfl rfl)
      · intro v; simp only [Act.put, List.setIfInBounds_toArray, List.set_cons_succ, List.set_cons_zero]; exact rfl
      · intro v; simp only [List.nil_append, List.cons_append]; exact rfl
      intro x74
      apply Ow.walk_cons rfl
      · intro w1 hb hd ho K hK
        have h70 := hd 3 (by kernel_rfl)
        have e72 : _ = x72 := Eq.symm (hd 5 (by kernel_rfl))
        subst e72
        have e74 : _ = x74 := Eq.symm (hd 7 (by kernel_rfl))
        subst e74
        clear ho
        clear hd
        go_simp
        refine (HK3.out w1 (HW.out w1 hb) _ (own_rd h70)).mono ?_
        rintro e w2 ⟨rfl, hb2⟩
        go_simp
        exact hK _ _ (Ow.good_below rfl rfl hb2 rfl)
      · intro v; simp only [Act.put, List.setIfInBounds_toArray, List.set_cons_succ, List.set_cons_zero]; exact rfl
      · intro v; simp only [List.nil_append, List.cons_append]; exact rfl
      intro x75
      apply Ow.walk_cons rfl
      · intro w1 hb hd ho K hK
        have e75 : _ = x75 := Eq.symm (hd 8 (by kernel_rfl))
        subst e75
        clear hd ho
        go_simp
        exact hK _ _ (Ow.good_same rfl rfl rfl)
      · intro v; simp only [Act.put, List.setIfInBounds_toArray, List.set_cons_succ, List.set_cons_zero]; exact rfl
      · intro v; simp only [List.nil_append, List.cons_append]; exact rfl
      intro x66
      apply Ow.walk_cons rfl
      · intro w1 hb hd ho K hK
        have e66 : _ = x66 := Eq.symm (hd 9 (by kernel_rfl))
        subst e66
        clear hd ho
        go_simp
        exact hK _ _ (Ow.good_same rfl rfl rfl)
      · intro v; simp only [Act.put, List.setIfInBounds_toArray, List.set_cons_succ, List.set_cons_zero]; exact rfl
      · intro v; simp only [List.nil_append, List.cons_append]; exact rfl
      intro x76
      apply Ow.walk_cons rfl
      · intro w1 hb hd ho K hK
        have e66 : _ = x66 := Eq.symm (hd 9 (by kernel_rfl))
        subst e66
        clear hd ho
        go_simp
        exact hK _ _ (Ow.good_same rfl rfl rfl)
      · intro v; simp only [Act.put, List.setIfInBounds_toArray, List.set_cons_succ, List.set_cons_zero]; exact rfl
      · intro v; simp only [List.nil_append, List.cons_append]; exact rfl
      intro x77
      apply Ow.walk_cons rfl
      · intro w1 hb hd ho K hK
        have e76 : _ = x76 := Eq.symm (hd 10 (by kernel_rfl))
        subst e76
        clear hd ho
        go_simp
        exact hK _ _ (Ow.good_same rfl rfl rfl)
      · intro v; simp only [Act.put, List.setIfInBounds_toArray, List.set_cons_succ, List.set_cons_zero]; exact rfl
      · intro v; simp only [List.nil_append, List.cons_append]; exact rfl
      intro x10
      apply Ow.walk_cons rfl
      · intro w1 hb hd ho K hK
        have e77 : _ = x77 := Eq.symm (hd 11 (by kernel_rfl))
        subst e77
        clear hd ho
        go_simp
        exact hK _ _ (Ow.good_same rfl rfl rfl)
      · intro v; simp only [Act.put, List.setIfInBounds_toArray, List.set_cons_succ, List.set_cons_zero]; exact rfl
      · intro v; simp only [List.nil_append, List.cons_append]; exact rfl
      intro x11
      refine Ow.walk_nil rfl (fun w1 hb hd => ?_)
      have e67 : _ = x67 := Eq.symm (hd 0 (by kernel_rfl))
      subst e67
      have e68 : _ = x68 := Eq.symm (hd 1 (by kernel_rfl))
      subst e68
      have e69 : _ = x69 := Eq.symm (hd 2 (by kernel_rfl))
      subst e69
      have h70 := hd 3 (by kernel_rfl)
      have e71 : _ = x71 := Eq.symm (hd 4 (by kernel_rfl))
      subst e71
      have e72 : _ = x72 := Eq.symm (hd 5 (by kernel_rfl))
      subst e72
      have e73 : _ = x73 := Eq.symm (hd 6 (by kernel_rfl))
      subst e73
      have e74 : _ = x74 := Eq.symm (hd 7 (by kernel_rfl))
      subst e74
      have e75 : _ = x75 := Eq.symm (hd 8 (by kernel_rfl))
      subst e75
      have e66 : _ = x66 := Eq.symm (hd 9 (by kernel_rfl))
      subst e66
      have e76 : _ = x76 := Eq.symm (hd 10 (by kernel_rfl))
      subst e76
      have e77 : _ = x77 := Eq.symm (hd 11 (by kernel_rfl))
      subst e77
      have e10 : _ = x10 := Eq.symm (hd 12 (by kernel_rfl))
      subst e10
      have e11 : _ = x11 := Eq.symm (hd 13 (by kernel_rfl))
      subst e11
      clear hd
      have HB8 : Hid (Below w.heap.size w w1) := HW.out w1 hb
      clear hb HW h70 c50 c51 
      go_simp
      rw [HKR.out, HKL.out, HKK.out]
      go_wp2
      go_ret
      exact ⟨rfl, HB8.out⟩
  · have t1 := bne_iff_ne.2 hok
    clear hok
    go_wp2
    go_ret
    exact ⟨rfl, HB3.out⟩
end Go.Proofs.Ytkpacigbhghcpaa
