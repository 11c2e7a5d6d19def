/- The law EvalJoins walked. -/
import Derived.Test.YtpidikbhjiaogaaWb
namespace Go.Proofs.Ytpidikbhjiaogaa
open Go.RowKit

theorem ev_right {vs : List VM} {xs : List VA} {ss : List (List UInt8)} {a : List CM} (h : (evP vs xs ss a).2 ≠ 1) : rightB a = true := by
  cases ha : rightB a with
  | true => rfl
  | false => rw [evP_form ha] at h; exact absurd rfl h
theorem ev_world {vs : List VM} {xs : List VA} {ss : List (List UInt8)} {a : List CM} (ha : rightB a = true) (h : (evP vs xs ss a).2 ≠ 12) : worldB vs xs = true := by
  cases hW : worldB vs xs with
  | true => rfl
  | false => rw [evP_arg ha hW] at h; exact absurd rfl h
def twoV : List VM := [⟨[97], 0, 0, 0, 0, 0, 0⟩, ⟨[98], 0, 0, 0, 0, 0, 0⟩]
def twoC (o : Int) : List CM := [⟨5, 0, [97]⟩, ⟨5, 0, [98]⟩, opC o]
/-- two variables joined come to what their values come to -/
theorem ev_both {x y : VA} (hx : OkV x) (hy : OkV y) {o : Int} (ho : 11 ≤ o ∧ o ≤ 23) : evP twoV [x, y] [] (twoC o) = joinE o x y := by
  have hok : OkT (.bin o (.leaf ⟨5, 0, [97]⟩) (.leaf ⟨5, 0, [98]⟩)) := ⟨ho.1, ho.2, ⟨by decide, by decide⟩, ⟨by decide, by decide⟩⟩
  have hp : twoC o = post (.bin o (.leaf ⟨5, 0, [97]⟩) (.leaf ⟨5, 0, [98]⟩)) := rfl
  have hB : rightB (post (.bin o (.leaf ⟨5, 0, [97]⟩) (.leaf ⟨5, 0, [98]⟩))) = true := tree_right hok (by show 3 ≤ 32; decide)
  have hxs : ∀ v ∈ [x, y], OkV v := by
    intro v hv
    simp only [List.mem_cons, List.not_mem_nil, or_false] at hv
    rcases hv with rfl | rfl
    · exact hx
    · exact hy
  have hW : worldB twoV [x, y] = true := by
    unfold worldB
    simp only [List.all_cons, List.all_nil, hx.1, hy.1]; rfl
  rw [hp, evP_run hB hW, ev_tree hxs rfl hok]
  have h1 : eT twoV [x, y] [] (.leaf ⟨5, 0, [97]⟩) = (x, 0) := by
    show varE twoV [x, y] [97] = _
    unfold varE
    rw [show ixP (isV [97]) twoV 0 = 0 by decide]; rfl
  have h2 : eT twoV [x, y] [] (.leaf ⟨5, 0, [98]⟩) = (y, 0) := by
    show varE twoV [x, y] [98] = _
    unfold varE
    rw [show ixP (isV [98]) twoV 0 = 1 by decide]; rfl
  show (if (eT twoV [x, y] [] (.leaf ⟨5, 0, [97]⟩)).2 ≠ 0 then _ else if (eT twoV [x, y] [] (.leaf ⟨5, 0, [98]⟩)).2 ≠ 0 then _ else joinE o _ _) = _
  rw [h1, h2, if_neg (by simp), if_neg (by simp)]

set_option maxRecDepth 100000 in
set_option maxHeartbeats 16000000 in
theorem evalJoins_law (va vb vv xv sv : Value) (a b : List CM) (vs : List VM) (xs : List VA) (ss : List (List UInt8)) (w : World) (hA : RdI w va a) (hla : a.length * 32 ≤ 140737488355328) (hB : RdI w vb b) (hlb : b.length * 32 ≤ 140737488355328) (hV : RdV w vv vs) (hvl : vs.length * 64 ≤ 140737488355328) (hX : RdX w xv xs) (hxl : xs.length * 24 ≤ 140737488355328) (hS : RdW w sv ss) (hsl : ss.length * 16 ≤ 140737488355328) (hi : ∀ x ∈ xs, inL x.a = true) :
    Calls Try.prog 6 #[va, vb, .agg #[vv, xv, sv]] w fun e w' => e = .returned (.bool true) ∧ Below w.heap.size w w' := by
  obtain ⟨V, vc, rfl⟩ := hV.form
  obtain ⟨X, xc, rfl⟩ := hX.form
  obtain ⟨S, sc, rfl⟩ := hS.form
  obtain ⟨A, ca, rfl⟩ := hA.inn.form
  obtain ⟨B, cb, rfl⟩ := hB.inn.form
  have hb0 : Below w.heap.size w (w.alloc (.cells #[.slice V vs.length vc, .slice X xs.length xc, .slice S ss.length sc] 31)) := (Below.refl _ _).alloc (Nat.le_refl _) _
  have hg0 : (w.alloc (.cells #[.slice V vs.length vc, .slice X xs.length xc, .slice S ss.length sc] 31)).heap[w.heap.size]? = some (.cells #[.slice V vs.length vc, .slice X xs.length xc, .slice S ss.length sc] 31 (0, 0)) := heap_at rfl _ _
  have hof := fun (l : List CM) (v : Value) W (hR : RdI W v l) (hl : l.length * 32 ≤ 140737488355328) (hb : Below w.heap.size w W) => of5_any v (.slice V vs.length vc) (.slice X xs.length xc) (.slice S ss.length sc) l vs xs ss W hR hl (hV.below hb) hvl (hX.below hb) hxl (hS.below hb) hsl hi
  have hoa := fun W hb => hof a (.slice A a.length ca) W (hA.below hb) hla hb
  have hob := fun W hb => hof b (.slice B b.length cb) W (hB.below hb) hlb hb
  have hjn := fun (hl : (a.length + b.length + 1) * 32 ≤ 140737488355328) (o : Int) W (hb : Below w.heap.size w W) => join_any (.slice A a.length ca) (.slice B b.length cb) a b o W (hA.below hb) hla (hB.below hb) hlb hl
  have hxk := fun (h : (evP vs xs ss a).2 = 0) => ev_ok (ss := ss) hi h
  have hyk := fun (h : (evP vs xs ss b).2 = 0) => ev_ok (ss := ss) hi h
  have hra := fun (h : (evP vs xs ss a).2 ≠ 1) => ev_right (vs := vs) (xs := xs) (ss := ss) h
  have hrb := fun (h : (evP vs xs ss b).2 ≠ 1) => ev_right (vs := vs) (xs := xs) (ss := ss) h
  have hrw := fun (h1 : rightB a = true) (h : (evP vs xs ss a).2 ≠ 12) => ev_world (vs := vs) (xs := xs) (ss := ss) h1 h
  have hej := fun (o : Int) (h1 : rightB a = true) (h2 : rightB b = true) (h3 : worldB vs xs = true) (hl : a.length + b.length + 1 ≤ 32) (ho : 11 ≤ o ∧ o ≤ 23) => ev_join (ss := ss) h1 h2 h3 hi hl ho
  generalize hp : evP vs xs ss a = p at *
  generalize hq : evP vs xs ss b = q at *
  obtain ⟨⟨xk, xa, xb⟩, xe⟩ := p
  obtain ⟨⟨yk, ya, yb⟩, ye⟩ := q
  have HOA : Hid (∀ W, Below w.heap.size w W → Calls Try.prog 12 #[.slice A a.length ca, .agg #[.slice V vs.length vc, .slice X xs.length xc, .slice S ss.length sc]] W fun e w' => e = .returned (.tuple #[.agg #[.int .i64 xk, .int .i64 xa, .int .i64 xb], .int .i64 xe]) ∧ Below W.heap.size W w') := hoa
  have HOB : Hid (∀ W, Below w.heap.size w W → Calls Try.prog 12 #[.slice B b.length cb, .agg #[.slice V vs.length vc, .slice X xs.length xc, .slice S ss.length sc]] W fun e w' => e = .returned (.tuple #[.agg #[.int .i64 yk, .int .i64 ya, .int .i64 yb], .int .i64 ye]) ∧ Below W.heap.size W w') := hob
  have HRA := Lib.hid hra; have HRB := Lib.hid hrb; have HRW := Lib.hid hrw
  clear hra hrb hrw
  have HOF := Lib.hid hof; have HJN0 := Lib.hid hjn; have HXK := Lib.hid hxk; have HYK := Lib.hid hyk; have HEJ := Lib.hid hej
  have HB0 := Lib.hid hb0; have HG0 := Lib.hid hg0
  clear hof hoa hob hjn hxk hyk hej hb0 hg0 hA hB hV hX hS hi hp hq
  go_enter Try.func6, Try.ntmps6
  go_wp2_with fail
  refine (HOA.out _ HB0.out).mono ?_
  rintro e w1 ⟨rfl, hb1⟩
  have hg1 := heap_up ((hb1.block _ (by simp)).trans HG0.out) (.cells #[.int .i64 xk, .int .i64 xa, .int .i64 xb] 23)
  obtain ⟨g0, g1, g2, _⟩ := at3 hg1
  have x0 : (w1.alloc (.cells #[.int .i64 xk, .int .i64 xa, .int .i64 xb] 23)).cell? ⟨w1.heap.size, 0, none⟩ = some (.int .i64 xk) := new_cell rfl rfl
  have x2 : (w1.alloc (.cells #[.int .i64 xk, .int .i64 xa, .int .i64 xb] 23)).cell? ⟨w1.heap.size, 2, none⟩ = some (.int .i64 xb) := new_cell rfl rfl
  have x1 : (w1.alloc (.cells #[.int .i64 xk, .int .i64 xa, .int .i64 xb] 23)).cell? ⟨w1.heap.size, 1, none⟩ = some (.int .i64 xa) := new_cell rfl rfl
  have HB1 := Lib.hid ((HB0.out.trans (hb1.mono HB0.out.size)).alloc (HB0.out.trans (hb1.mono HB0.out.size)).size (.cells #[.int .i64 xk, .int .i64 xa, .int .i64 xb] 23))
  have hz1 : w.heap.size + 1 ≤ w1.heap.size := by have := hb1.size; simpa using this
  clear hb1
  go_wp2_with fail
  refine (HOB.out _ HB1.out).mono ?_
  rintro e w2 ⟨rfl, hb2⟩
  have x0' := old_cell (o := (.cells #[.int .i64 yk, .int .i64 ya, .int .i64 yb] 23)) ((hb2.cell (cell_lt x0)).trans x0)
  have x2' := old_cell (o := (.cells #[.int .i64 yk, .int .i64 ya, .int .i64 yb] 23)) ((hb2.cell (cell_lt x2)).trans x2)
  have x1' := old_cell (o := (.cells #[.int .i64 yk, .int .i64 ya, .int .i64 yb] 23)) ((hb2.cell (cell_lt x1)).trans x1)
  have hg2 := heap_up ((hb2.block _ (by simp; omega)).trans hg1) (.cells #[.int .i64 yk, .int .i64 ya, .int .i64 yb] 23)
  have y0 : (w2.alloc (.cells #[.int .i64 yk, .int .i64 ya, .int .i64 yb] 23)).cell? ⟨w2.heap.size, 0, none⟩ = some (.int .i64 yk) := new_cell rfl rfl
  have y2 : (w2.alloc (.cells #[.int .i64 yk, .int .i64 ya, .int .i64 yb] 23)).cell? ⟨w2.heap.size, 2, none⟩ = some (.int .i64 yb) := new_cell rfl rfl
  have y1 : (w2.alloc (.cells #[.int .i64 yk, .int .i64 ya, .int .i64 yb] 23)).cell? ⟨w2.heap.size, 1, none⟩ = some (.int .i64 ya) := new_cell rfl rfl
  have HB2 := Lib.hid ((HB1.out.trans (hb2.mono HB1.out.size)).alloc (HB1.out.trans (hb2.mono HB1.out.size)).size (.cells #[.int .i64 yk, .int .i64 ya, .int .i64 yb] 23))
  have hz2 : w.heap.size < w2.heap.size := by have := hb2.size; simp at this; omega
  clear hb2 x0 x1 x2 hg1 g0 g1 g2
  go_wp2_with fail
  refine (wakes5_any _).mono ?_
  rintro e w3 ⟨rfl, hb3⟩
  have hx0 := (hb3.cell (cell_lt x0')).trans x0'
  have hx2 := (hb3.cell (cell_lt x2')).trans x2'
  have hy2 := (hb3.cell (cell_lt y2)).trans y2
  have hx1 := (hb3.cell (cell_lt x1')).trans x1'
  have hy0 := (hb3.cell (cell_lt y0)).trans y0
  have hy1 := (hb3.cell (cell_lt y1)).trans y1
  have hg3 := (hb3.block _ (by simp; omega)).trans hg2
  obtain ⟨g0, g1, g2, _⟩ := at3 hg3
  have HW3 := Lib.hid (HB2.out.trans (hb3.mono HB2.out.size))
  clear hb3 x0' x1' x2' y0 y1 y2 hg2 hg3
  by_cases h1 : xe = 1
  · as_aux_lemma =>
    subst h1
    go_wp2
    go_ret
    exact ⟨rfl, HW3.out⟩
  have t1 := int_ne h1
  by_cases h2 : ye = 1
  · as_aux_lemma =>
    subst h2
    go_wp2
    go_ret
    exact ⟨rfl, HW3.out⟩
  have t2 := int_ne h2
  by_cases h3 : xe = 12
  · as_aux_lemma =>
    subst h3
    go_wp2
    go_ret
    exact ⟨rfl, HW3.out⟩
  have t3 := int_ne h3
  have hwa := (wrap_len (n := a.length) (m := b.length) (by omega) (by omega)).1
  by_cases hlen : 32 ≤ (a.length : Int) + b.length
  · as_aux_lemma =>
    go_wp2
    go_ret
    exact ⟨rfl, HW3.out⟩
  have hlen' : ¬ (32 : Int) ≤ (a.length : Int) + b.length := hlen
  have hra := HRA.out h1
  have hrb := HRB.out h2
  have hwo := HRW.out hra h3
  have HJN := Lib.hid (HJN0.out (by omega))
  have hrow : ∀ (o : Int) (v : Value) (W : World), Below w.heap.size w W → W.ownsRow 0 41 3 v (a ++ b ++ [opC o]).length (flat (a ++ b ++ [opC o])) → Calls Try.prog 12 #[v, .agg #[.slice V vs.length vc, .slice X xs.length xc, .slice S ss.length sc]] W fun e w' => e = outW (evP vs xs ss (a ++ b ++ [opC o])) ∧ Below W.heap.size W w' := by
    intro o v W hb hr
    exact HOF.out (a ++ b ++ [opC o]) v W (rdI_of_own hr) (by simp only [List.length_append, List.length_cons, List.length_nil]; omega) hb
  have HROW := Lib.hid hrow
  have hev : ∀ o : Int, 11 ≤ o ∧ o ≤ 23 → evP vs xs ss (a ++ b ++ [opC o]) = if xe ≠ 0 then erV xe else if ye ≠ 0 then erV ye else joinE o ⟨xk, xa, xb⟩ ⟨yk, ya, yb⟩ := fun o ho => HEJ.out o hra hrb hwo (by omega) ho
  have HEV := Lib.hid hev
  have hokx : xe = 0 → OkV ⟨xk, xa, xb⟩ := fun h => (HXK.out h).2.2
  have hoky : ye = 0 → OkV ⟨yk, ya, yb⟩ := fun h => (HYK.out h).2.2
  have HKX := Lib.hid hokx; have HKY := Lib.hid hoky
  clear hrow hev hokx hoky hra hrb hwo HEJ HOF HXK HYK HJN0 HOA HOB HRA HRB HRW HB1 HB2 HB0 HG0
  go_wp2
  go_loopw [11, 12, 13, 14, 15, 16] (fun x11 _ _ _ _ _ wr => ∃ o : Int, 11 ≤ o ∧ o ≤ 24 ∧ x11 = .int .i64 o ∧ Below w3.heap.size w3 wr) (fun x _ _ _ _ _ _ => (24 - intOf x).toNat)
  case atStart => exact ⟨11, by omega, by omega, rfl, Below.refl _ _⟩
  case round =>
    obtain ⟨o, ho1, ho2, rfl, hbr⟩ := hrel
    have HBR := Lib.hid hbr
    clear hbr
    by_cases ho : o ≤ 23
    rotate_left
    · as_aux_lemma =>
      obtain rfl : o = 24 := by omega
      go_wp2
      go_ret
      exact ⟨rfl, HW3.out.trans (HBR.out.mono HW3.out.size)⟩
    have hw : wrap64 (o + 1) = o + 1 := wrap_id (by omega)
    have hev := HEV.out o ⟨ho1, ho⟩
    obtain ⟨j, hj⟩ : ∃ j, evP vs xs ss (a ++ b ++ [opC o]) = j := ⟨_, rfl⟩
    rw [hj] at hev
    have hrow := HROW.out o
    rw [hj] at hrow
    obtain ⟨⟨jk, ja, jb⟩, je⟩ := j
    have HJ : Hid (∀ (v : Value) (W : World), Below w.heap.size w W → True → W.ownsRow 0 41 3 v (a ++ b ++ [opC o]).length (flat (a ++ b ++ [opC o])) → Calls Try.prog 12 #[v, .agg #[.slice V vs.length vc, .slice X xs.length xc, .slice S ss.length sc]] W fun e w' => e = .returned (.tuple #[.agg #[.int .i64 jk, .int .i64 ja, .int .i64 jb], .int .i64 je]) ∧ Below W.heap.size W w') := fun v W hb _ hr => hrow v W hb hr
    have HE : Hid True := trivial
    clear hj hrow HROW HEV
    by_cases hx0' : xe = 0
    rotate_left
    · as_aux_lemma =>
      rw [if_pos hx0'] at hev
      have hje : je = xe := congrArg Prod.snd hev
      subst hje
      have txe := int_ne hx0'
      clear hev HKX HKY
      go_wp2_with fail
      refine Oz.region_own' 113 [Ow.eqR (.slice A a.length ca), Ow.eqR (.slice B b.length cb), Ow.eqR (.int .i64 o), fun v w' => w'.ownsRow 0 41 3 v (a ++ b ++ [opC o]).length (flat (a ++ b ++ [opC o])), Ow.eqR (.agg #[.slice V vs.length vc, .slice X xs.length xc, .slice S ss.length sc]), Ow.eqR (.tuple #[.agg #[.int .i64 jk, .int .i64 ja, .int .i64 jb], .int .i64 je]), Ow.eqR (.tuple #[.agg #[.int .i64 jk, .int .i64 ja, .int .i64 jb], .int .i64 je]), Ow.eqR (.agg #[.int .i64 jk, .int .i64 ja, .int .i64 jb]), Ow.eqR (.int .i64 je), Oz.BoxR (0) 23 #[.int .i64 0, .int .i64 0, .int .i64 0], Oz.BoxR (0) 23 #[.int .i64 jk, .int .i64 ja, .int .i64 jb], Ow.eqR (.int .i64 je)] [false, false, false, true, false, false, false, false, false, true, true, false] [none, none, none, none, none, none, none, none, none, none, some 9, none] (by kernel_rfl) rfl (by kernel_rfl) ⟨Oz.keeps_eq _ _, Oz.keeps_eq _ _, Oz.keeps_eq _ _, Oz.keeps_own _ _ _ _ _, Oz.keeps_eq _ _, Oz.keeps_eq _ _, Oz.keeps_eq _ _, Oz.keeps_eq _ _, Oz.keeps_eq _ _, Oz.keeps_box _ _ _, Oz.keeps_box _ _ _, Oz.keeps_eq _ _, trivial⟩ ?_
      apply Oz.walk_cons rfl
      · intro w1 hb hu hd ho K hK
        clear hu hd ho
        go_simp
        exact hK _ _ (Oz.good_same rfl rfl rfl)
      · intro v; simp only [Act.put, List.setIfInBounds_toArray, List.set_cons_succ, List.set_cons_zero]; exact rfl
      · intro v; exact (rfl : _ = ([v] : List Value))
      intro x54
      apply Oz.walk_cons rfl
      · intro w1 hb hu hd ho K hK
        clear hu hd ho
        go_simp
        exact hK _ _ (Oz.good_same rfl rfl rfl)
      · intro v; simp only [Act.put, List.setIfInBounds_toArray, List.set_cons_succ, List.set_cons_zero]; exact rfl
      · intro v; exact (rfl : _ = ([x54, v] : List Value))
      intro x55
      apply Oz.walk_cons rfl
      · intro w1 hb hu hd ho K hK
        clear hu hd ho
        go_simp
        exact hK _ _ (Oz.good_same rfl rfl rfl)
      · intro v; simp only [Act.put, List.setIfInBounds_toArray, List.set_cons_succ, List.set_cons_zero]; exact rfl
      · intro v; exact (rfl : _ = ([x54, x55, v] : List Value))
      intro x56
      apply Oz.walk_cons rfl
      · intro w1 hb hu hd ho K hK
        have e54 : _ = x54 := Eq.symm (hd 0 (by kernel_rfl))
        subst e54
        have e55 : _ = x55 := Eq.symm (hd 1 (by kernel_rfl))
        subst e55
        have e56 : _ = x56 := Eq.symm (hd 2 (by kernel_rfl))
        subst e56
        have hz := hb.size
        have hbw : Below w.heap.size w w1 := HW3.out.trans ((HBR.out.drew.trans (hb.mono HBR.out.size)).mono HW3.out.size)
        clear hu hd ho
        go_simp
        refine (HJN.out o w1 hbw).mono ?_
        rintro e w2 ⟨v, rfl, hown, hb2⟩
        go_simp
        exact hK _ _ (Oz.good_new rfl hz hb2 (own_low hown (Nat.zero_le _)) (fun g hg => hown.lt g ((Oz.own_slice hown).symm.trans hg)))
      · intro v; simp only [Act.put, List.setIfInBounds_toArray, List.set_cons_succ, List.set_cons_zero]; exact rfl
      · intro v; exact (rfl : _ = ([x54, x55, x56, v] : List Value))
      intro x57
      apply Oz.walk_cons rfl
      · intro w1 hb hu hd ho K hK
        clear hu hd ho
        have hfull : Below w3.heap.size w3 w1 := HBR.out.drew.trans (hb.mono HBR.out.size)
        have c0 := (hfull.cell (cell_lt g0)).trans g0
        have c1 := (hfull.cell (cell_lt g1)).trans g1
        have c2 := (hfull.cell (cell_lt g2)).trans g2
        clear hfull
        go_simp
        exact hK _ _ (Oz.good_same rfl rfl rfl)
      · intro v; simp only [Act.put, List.setIfInBounds_toArray, List.set_cons_succ, List.set_cons_zero]; exact rfl
      · intro v; exact (rfl : _ = ([x54, x55, x56, x57, v] : List Value))
      intro x58
      apply Oz.walk_cons rfl
      · intro w1 hb hu hd ho K hK
        have h57 := hd 3 (by kernel_rfl)
        have e58 : _ = x58 := Eq.symm (hd 4 (by kernel_rfl))
        subst e58
        have hbw : Below w.heap.size w w1 := HW3.out.trans ((HBR.out.drew.trans (hb.mono HBR.out.size)).mono HW3.out.size)
        clear hu hd ho
        go_simp
        refine (HJ.out _ w1 hbw HE.out h57).mono ?_
        rintro e w2 ⟨rfl, hb2⟩
        go_simp
        exact hK _ _ (Oz.good_below rfl rfl hb2 rfl)
      · intro v; simp only [Act.put, List.setIfInBounds_toArray, List.set_cons_succ, List.set_cons_zero]; exact rfl
      · intro v; exact (rfl : _ = ([x54, x55, x56, x57, x58, v] : List Value))
      intro x59
      apply Oz.walk_cons rfl
      · intro w1 hb hu hd ho K hK
        have e59 : _ = x59 := Eq.symm (hd 5 (by kernel_rfl))
        subst e59
        clear hu hd ho
        go_simp
        exact hK _ _ (Oz.good_same rfl rfl rfl)
      · intro v; simp only [Act.put, List.setIfInBounds_toArray, List.set_cons_succ, List.set_cons_zero]; exact rfl
      · intro v; exact (rfl : _ = ([x54, x55, x56, x57, x58, x59, v] : List Value))
      intro x53
      apply Oz.walk_cons rfl
      · intro w1 hb hu hd ho K hK
        have e53 : _ = x53 := Eq.symm (hd 6 (by kernel_rfl))
        subst e53
        clear hu hd ho
        go_simp
        exact hK _ _ (Oz.good_same rfl rfl rfl)
      · intro v; simp only [Act.put, List.setIfInBounds_toArray, List.set_cons_succ, List.set_cons_zero]; exact rfl
      · intro v; exact (rfl : _ = ([x54, x55, x56, x57, x58, x59, x53, v] : List Value))
      intro x60
      apply Oz.walk_cons rfl
      · intro w1 hb hu hd ho K hK
        have e53 : _ = x53 := Eq.symm (hd 6 (by kernel_rfl))
        subst e53
        clear hu hd ho
        go_simp
        exact hK _ _ (Oz.good_same rfl rfl rfl)
      · intro v; simp only [Act.put, List.setIfInBounds_toArray, List.set_cons_succ, List.set_cons_zero]; exact rfl
      · intro v; exact (rfl : _ = ([x54, x55, x56, x57, x58, x59, x53, x60, v] : List Value))
      intro x61
      apply Oz.walk_cons rfl
      · intro w1 hb hu hd ho K hK
        have hz := hb.size
        clear hu hd ho
        go_simp
        exact hK _ _ (Oz.good_box (b0 := 0) rfl (Nat.zero_le _) hz rfl)
      · intro v; simp only [Act.put, List.setIfInBounds_toArray, List.set_cons_succ, List.set_cons_zero]; exact rfl
      · intro v; exact (rfl : _ = ([x54, x55, x56, x57, x58, x59, x53, x60, x61, v] : List Value))
      intro x12
      apply Oz.walk_cons rfl
      · intro w1 hb hu hd ho K hK
        have h12 := hd 9 (by kernel_rfl)
        have e60 : _ = x60 := Eq.symm (hd 7 (by kernel_rfl))
        subst e60
        have hz := hb.size
        have hoo := ho 9 (by kernel_rfl) rfl
        obtain ⟨b, rfl, hb0, hh⟩ := h12
        have dq0 : w1.cell? ⟨b, 0, none⟩ = some (.int .i64 0) := by simp [World.cell?, hh]
        have fq0 : w1.frozen? ⟨b, 0, none⟩ = false := by simp [World.frozen?, hh]
        have dq1 : w1.cell? ⟨b, 1, none⟩ = some (.int .i64 0) := by simp [World.cell?, hh]
        have fq1 : w1.frozen? ⟨b, 1, none⟩ = false := by simp [World.frozen?, hh]
        have dq2 : w1.cell? ⟨b, 2, none⟩ = some (.int .i64 0) := by simp [World.cell?, hh]
        have fq2 : w1.frozen? ⟨b, 2, none⟩ = false := by simp [World.frozen?, hh]
        have kq0 := heap_setCell_same _ _ 0 _ _ (.int .i64 jk) hh
        have kq1 := heap_setCell_same _ _ 1 _ _ (.int .i64 ja) kq0
        have kq2 := heap_setCell_same _ _ 2 _ _ (.int .i64 jb) kq1
        clear hu hd ho
        go_simp
        exact hK undef _ (Oz.good_put (k := 9) (cs := #[.int .i64 jk, .int .i64 ja, .int .i64 jb]) rfl rfl hb0 hz (Oz.setAll_grown b [.int .i64 jk, .int .i64 ja, .int .i64 jb] 0 w1) rfl kq2 hoo)
      · intro v; exact rfl
      · intro v; exact (rfl : _ = ([x54, x55, x56, x57, x58, x59, x53, x60, x61, x12, x12] : List Value))
      intro xn10
      apply Oz.walk_cons rfl
      · intro w1 hb hu hd ho K hK
        have e61 : _ = x61 := Eq.symm (hd 8 (by kernel_rfl))
        subst e61
        clear hu hd ho
        go_simp
        exact hK _ _ (Oz.good_same rfl rfl rfl)
      · intro v; simp only [Act.put, List.setIfInBounds_toArray, List.set_cons_succ, List.set_cons_zero]; exact rfl
      · intro v; exact (rfl : _ = ([x54, x55, x56, x57, x58, x59, x53, x60, x61, x12, x12, v] : List Value))
      intro x13
      refine Oz.walk_nil rfl (fun w1 hb hu hd => ?_)
      have e54 : _ = x54 := Eq.symm (hd 0 (by kernel_rfl))
      subst e54
      have e55 : _ = x55 := Eq.symm (hd 1 (by kernel_rfl))
      subst e55
      have e56 : _ = x56 := Eq.symm (hd 2 (by kernel_rfl))
      subst e56
      have h57 := hd 3 (by kernel_rfl)
      have e58 : _ = x58 := Eq.symm (hd 4 (by kernel_rfl))
      subst e58
      have e59 : _ = x59 := Eq.symm (hd 5 (by kernel_rfl))
      subst e59
      have e53 : _ = x53 := Eq.symm (hd 6 (by kernel_rfl))
      subst e53
      have e60 : _ = x60 := Eq.symm (hd 7 (by kernel_rfl))
      subst e60
      have e61 : _ = x61 := Eq.symm (hd 8 (by kernel_rfl))
      subst e61
      have hn10 := hd 10 (by kernel_rfl)
      have e13 : _ = x13 := Eq.symm (hd 11 (by kernel_rfl))
      subst e13
      clear hd hu
      have HBN := Lib.hid (HBR.out.drew.trans (hb.mono HBR.out.size))
      obtain ⟨bx, rfl, _, hh⟩ := hn10
      obtain ⟨r0, r1, r2, _⟩ := at3 hh
      clear hb hh
      go_simp
      obtain ⟨wn, hwq⟩ : ∃ W, W = w1 := ⟨_, rfl⟩
      subst hwq
      go_wp2
      go_roundw
      case rel => exact ⟨o + 1, by omega, by omega, by first | rfl | (rw [hw]), HBN.out⟩
      case measure => simp [intOf]; omega
    rw [if_neg (by simp [hx0'])] at hev
    have hkx := HKX.out hx0'
    subst hx0'
    by_cases hy0' : ye = 0
    rotate_left
    · as_aux_lemma =>
      rw [if_pos hy0'] at hev
      have hje : je = ye := congrArg Prod.snd hev
      subst hje
      have tye := int_ne hy0'
      clear hev HKX HKY hkx
      go_wp2_with fail
      refine Oz.region_own' 113 [Ow.eqR (.slice A a.length ca), Ow.eqR (.slice B b.length cb), Ow.eqR (.int .i64 o), fun v w' => w'.ownsRow 0 41 3 v (a ++ b ++ [opC o]).length (flat (a ++ b ++ [opC o])), Ow.eqR (.agg #[.slice V vs.length vc, .slice X xs.length xc, .slice S ss.length sc]), Ow.eqR (.tuple #[.agg #[.int .i64 jk, .int .i64 ja, .int .i64 jb], .int .i64 je]), Ow.eqR (.tuple #[.agg #[.int .i64 jk, .int .i64 ja, .int .i64 jb], .int .i64 je]), Ow.eqR (.agg #[.int .i64 jk, .int .i64 ja, .int .i64 jb]), Ow.eqR (.int .i64 je), Oz.BoxR (0) 23 #[.int .i64 0, .int .i64 0, .int .i64 0], Oz.BoxR (0) 23 #[.int .i64 jk, .int .i64 ja, .int .i64 jb], Ow.eqR (.int .i64 je)] [false, false, false, true, false, false, false, false, false, true, true, false] [none, none, none, none, none, none, none, none, none, none, some 9, none] (by kernel_rfl) rfl (by kernel_rfl) ⟨Oz.keeps_eq _ _, Oz.keeps_eq _ _, Oz.keeps_eq _ _, Oz.keeps_own _ _ _ _ _, Oz.keeps_eq _ _, Oz.keeps_eq _ _, Oz.keeps_eq _ _, Oz.keeps_eq _ _, Oz.keeps_eq _ _, Oz.keeps_box _ _ _, Oz.keeps_box _ _ _, Oz.keeps_eq _ _, trivial⟩ ?_
      apply Oz.walk_cons rfl
      · intro w1 hb hu hd ho K hK
        clear hu hd ho
        go_simp
        exact hK _ _ (Oz.good_same rfl rfl rfl)
      · intro v; simp only [Act.put, List.setIfInBounds_toArray, List.set_cons_succ, List.set_cons_zero]; exact rfl
      · intro v; exact (rfl : _ = ([v] : List Value))
      intro x54
      apply Oz.walk_cons rfl
      · intro w1 hb hu hd ho K hK
        clear hu hd ho
        go_simp
        exact hK _ _ (Oz.good_same rfl rfl rfl)
      · intro v; simp only [Act.put, List.setIfInBounds_toArray, List.set_cons_succ, List.set_cons_zero]; exact rfl
      · intro v; exact (rfl : _ = ([x54, v] : List Value))
      intro x55
      apply Oz.walk_cons rfl
      · intro w1 hb hu hd ho K hK
        clear hu hd ho
        go_simp
        exact hK _ _ (Oz.good_same rfl rfl rfl)
      · intro v; simp only [Act.put, List.setIfInBounds_toArray, List.set_cons_succ, List.set_cons_zero]; exact rfl
      · intro v; exact (rfl : _ = ([x54, x55, v] : List Value))
      intro x56
      apply Oz.walk_cons rfl
      · intro w1 hb hu hd ho K hK
        have e54 : _ = x54 := Eq.symm (hd 0 (by kernel_rfl))
        subst e54
        have e55 : _ = x55 := Eq.symm (hd 1 (by kernel_rfl))
        subst e55
        have e56 : _ = x56 := Eq.symm (hd 2 (by kernel_rfl))
        subst e56
        have hz := hb.size
        have hbw : Below w.heap.size w w1 := HW3.out.trans ((HBR.out.drew.trans (hb.mono HBR.out.size)).mono HW3.out.size)
        clear hu hd ho
        go_simp
        refine (HJN.out o w1 hbw).mono ?_
        rintro e w2 ⟨v, rfl, hown, hb2⟩
        go_simp
        exact hK _ _ (Oz.good_new rfl hz hb2 (own_low hown (Nat.zero_le _)) (fun g hg => hown.lt g ((Oz.own_slice hown).symm.trans hg)))
      · intro v; simp only [Act.put, List.setIfInBounds_toArray, List.set_cons_succ, List.set_cons_zero]; exact rfl
      · intro v; exact (rfl : _ = ([x54, x55, x56, v] : List Value))
      intro x57
      apply Oz.walk_cons rfl
      · intro w1 hb hu hd ho K hK
        clear hu hd ho
        have hfull : Below w3.heap.size w3 w1 := HBR.out.drew.trans (hb.mono HBR.out.size)
        have c0 := (hfull.cell (cell_lt g0)).trans g0
        have c1 := (hfull.cell (cell_lt g1)).trans g1
        have c2 := (hfull.cell (cell_lt g2)).trans g2
        clear hfull
        go_simp
        exact hK _ _ (Oz.good_same rfl rfl rfl)
      · intro v; simp only [Act.put, List.setIfInBounds_toArray, List.set_cons_succ, List.set_cons_zero]; exact rfl
      · intro v; exact (rfl : _ = ([x54, x55, x56, x57, v] : List Value))
      intro x58
      apply Oz.walk_cons rfl
      · intro w1 hb hu hd ho K hK
        have h57 := hd 3 (by kernel_rfl)
        have e58 : _ = x58 := Eq.symm (hd 4 (by kernel_rfl))
        subst e58
        have hbw : Below w.heap.size w w1 := HW3.out.trans ((HBR.out.drew.trans (hb.mono HBR.out.size)).mono HW3.out.size)
        clear hu hd ho
        go_simp
        refine (HJ.out _ w1 hbw HE.out h57).mono ?_
        rintro e w2 ⟨rfl, hb2⟩
        go_simp
        exact hK _ _ (Oz.good_below rfl rfl hb2 rfl)
      · intro v; simp only [Act.put, List.setIfInBounds_toArray, List.set_cons_succ, List.set_cons_zero]; exact rfl
      · intro v; exact (rfl : _ = ([x54, x55, x56, x57, x58, v] : List Value))
      intro x59
      apply Oz.walk_cons rfl
      · intro w1 hb hu hd ho K hK
        have e59 : _ = x59 := Eq.symm (hd 5 (by kernel_rfl))
        subst e59
        clear hu hd ho
        go_simp
        exact hK _ _ (Oz.good_same rfl rfl rfl)
      · intro v; simp only [Act.put, List.setIfInBounds_toArray, List.set_cons_succ, List.set_cons_zero]; exact rfl
      · intro v; exact (rfl : _ = ([x54, x55, x56, x57, x58, x59, v] : List Value))
      intro x53
      apply Oz.walk_cons rfl
      · intro w1 hb hu hd ho K hK
        have e53 : _ = x53 := Eq.symm (hd 6 (by kernel_rfl))
        subst e53
        clear hu hd ho
        go_simp
        exact hK _ _ (Oz.good_same rfl rfl rfl)
      · intro v; simp only [Act.put, List.setIfInBounds_toArray, List.set_cons_succ, List.set_cons_zero]; exact rfl
      · intro v; exact (rfl : _ = ([x54, x55, x56, x57, x58, x59, x53, v] : List Value))
      intro x60
      apply Oz.walk_cons rfl
      · intro w1 hb hu hd ho K hK
        have e53 : _ = x53 := Eq.symm (hd 6 (by kernel_rfl))
        subst e53
        clear hu hd ho
        go_simp
        exact hK _ _ (Oz.good_same rfl rfl rfl)
      · intro v; simp only [Act.put, List.setIfInBounds_toArray, List.set_cons_succ, List.set_cons_zero]; exact rfl
      · intro v; exact (rfl : _ = ([x54, x55, x56, x57, x58, x59, x53, x60, v] : List Value))
      intro x61
      apply Oz.walk_cons rfl
      · intro w1 hb hu hd ho K hK
        have hz := hb.size
        clear hu hd ho
        go_simp
        exact hK _ _ (Oz.good_box (b0 := 0) rfl (Nat.zero_le _) hz rfl)
      · intro v; simp only [Act.put, List.setIfInBounds_toArray, List.set_cons_succ, List.set_cons_zero]; exact rfl
      · intro v; exact (rfl : _ = ([x54, x55, x56, x57, x58, x59, x53, x60, x61, v] : List Value))
      intro x12
      apply Oz.walk_cons rfl
      · intro w1 hb hu hd ho K hK
        have h12 := hd 9 (by kernel_rfl)
        have e60 : _ = x60 := Eq.symm (hd 7 (by kernel_rfl))
        subst e60
        have hz := hb.size
        have hoo := ho 9 (by kernel_rfl) rfl
        obtain ⟨b, rfl, hb0, hh⟩ := h12
        have dq0 : w1.cell? ⟨b, 0, none⟩ = some (.int .i64 0) := by simp [World.cell?, hh]
        have fq0 : w1.frozen? ⟨b, 0, none⟩ = false := by simp [World.frozen?, hh]
        have dq1 : w1.cell? ⟨b, 1, none⟩ = some (.int .i64 0) := by simp [World.cell?, hh]
        have fq1 : w1.frozen? ⟨b, 1, none⟩ = false := by simp [World.frozen?, hh]
        have dq2 : w1.cell? ⟨b, 2, none⟩ = some (.int .i64 0) := by simp [World.cell?, hh]
        have fq2 : w1.frozen? ⟨b, 2, none⟩ = false := by simp [World.frozen?, hh]
        have kq0 := heap_setCell_same _ _ 0 _ _ (.int .i64 jk) hh
        have kq1 := heap_setCell_same _ _ 1 _ _ (.int .i64 ja) kq0
        have kq2 := heap_setCell_same _ _ 2 _ _ (.int .i64 jb) kq1
        clear hu hd ho
        go_simp
        exact hK undef _ (Oz.good_put (k := 9) (cs := #[.int .i64 jk, .int .i64 ja, .int .i64 jb]) rfl rfl hb0 hz (Oz.setAll_grown b [.int .i64 jk, .int .i64 ja, .int .i64 jb] 0 w1) rfl kq2 hoo)
      · intro v; exact rfl
      · intro v; exact (rfl : _ = ([x54, x55, x56, x57, x58, x59, x53, x60, x61, x12, x12] : List Value))
      intro xn10
      apply Oz.walk_cons rfl
      · intro w1 hb hu hd ho K hK
        have e61 : _ = x61 := Eq.symm (hd 8 (by kernel_rfl))
        subst e61
        clear hu hd ho
        go_simp
        exact hK _ _ (Oz.good_same rfl rfl rfl)
      · intro v; simp only [Act.put, List.setIfInBounds_toArray, List.set_cons_succ, List.set_cons_zero]; exact rfl
      · intro v; exact (rfl : _ = ([x54, x55, x56, x57, x58, x59, x53, x60, x61, x12, x12, v] : List Value))
      intro x13
      refine Oz.walk_nil rfl (fun w1 hb hu hd => ?_)
      have e54 : _ = x54 := Eq.symm (hd 0 (by kernel_rfl))
      subst e54
      have e55 : _ = x55 := Eq.symm (hd 1 (by kernel_rfl))
      subst e55
      have e56 : _ = x56 := Eq.symm (hd 2 (by kernel_rfl))
      subst e56
      have h57 := hd 3 (by kernel_rfl)
      have e58 : _ = x58 := Eq.symm (hd 4 (by kernel_rfl))
      subst e58
      have e59 : _ = x59 := Eq.symm (hd 5 (by kernel_rfl))
      subst e59
      have e53 : _ = x53 := Eq.symm (hd 6 (by kernel_rfl))
      subst e53
      have e60 : _ = x60 := Eq.symm (hd 7 (by kernel_rfl))
      subst e60
      have e61 : _ = x61 := Eq.symm (hd 8 (by kernel_rfl))
      subst e61
      have hn10 := hd 10 (by kernel_rfl)
      have e13 : _ = x13 := Eq.symm (hd 11 (by kernel_rfl))
      subst e13
      clear hd hu
      have HBN := Lib.hid (HBR.out.drew.trans (hb.mono HBR.out.size))
      obtain ⟨bx, rfl, _, hh⟩ := hn10
      obtain ⟨r0, r1, r2, _⟩ := at3 hh
      clear hb hh
      go_simp
      obtain ⟨wn, hwq⟩ : ∃ W, W = w1 := ⟨_, rfl⟩
      subst hwq
      go_wp2
      go_roundw
      case rel => exact ⟨o + 1, by omega, by omega, by first | rfl | (rw [hw]), HBN.out⟩
      case measure => simp [intOf]; omega
    rw [if_neg (by simp [hy0'])] at hev
    have hky := HKY.out hy0'
    subst hy0'
    have hof2 := fun (W : World) (v1 v2 v3 : Value) (h1 : RdI W v1 (twoC o)) (h2 : RdV W v2 twoV) (h3 : RdX W v3 [⟨xk, xa, xb⟩, ⟨yk, ya, yb⟩]) => of5_any v1 v2 v3 (.slice none 0 0) (twoC o) twoV [⟨xk, xa, xb⟩, ⟨yk, ya, yb⟩] [] W h1 (by simp [twoC]) h2 (by simp [twoV]) h3 (by simp) (Inn.nil _ _) (by simp) (by
      intro v hv
      simp only [List.mem_cons, List.not_mem_nil, or_false] at hv
      rcases hv with rfl | rfl
      · exact hkx.2
      · exact hky.2)
    rw [ev_both hkx hky ⟨ho1, ho⟩, ← hev] at hof2
    have HOF2 : Hid (∀ (W : World) (v1 v2 v3 : Value), RdI W v1 (twoC o) → RdV W v2 twoV → RdX W v3 [⟨xk, xa, xb⟩, ⟨yk, ya, yb⟩] → Calls Try.prog 12 #[v1, .agg #[v2, v3, .slice none 0 0]] W fun e w' => e = .returned (.tuple #[.agg #[.int .i64 jk, .int .i64 ja, .int .i64 jb], .int .i64 je]) ∧ Below W.heap.size W w') := hof2
    clear hof2 hev HKX HKY hkx hky
    go_wp2_with fail
    refine Oz.region_own' 113 [Ow.eqR (.slice A a.length ca), Ow.eqR (.slice B b.length cb), Ow.eqR (.int .i64 o), fun v w' => w'.ownsRow 0 41 3 v (a ++ b ++ [opC o]).length (flat (a ++ b ++ [opC o])), Ow.eqR (.agg #[.slice V vs.length vc, .slice X xs.length xc, .slice S ss.length sc]), Ow.eqR (.tuple #[.agg #[.int .i64 jk, .int .i64 ja, .int .i64 jb], .int .i64 je]), Ow.eqR (.tuple #[.agg #[.int .i64 jk, .int .i64 ja, .int .i64 jb], .int .i64 je]), Ow.eqR (.agg #[.int .i64 jk, .int .i64 ja, .int .i64 jb]), Ow.eqR (.int .i64 je), Oz.BoxR (0) 23 #[.int .i64 0, .int .i64 0, .int .i64 0], Oz.BoxR (0) 23 #[.int .i64 jk, .int .i64 ja, .int .i64 jb], Ow.eqR (.int .i64 je)] [false, false, false, true, false, false, false, false, false, true, true, false] [none, none, none, none, none, none, none, none, none, none, some 9, none] (by kernel_rfl) rfl (by kernel_rfl) ⟨Oz.keeps_eq _ _, Oz.keeps_eq _ _, Oz.keeps_eq _ _, Oz.keeps_own _ _ _ _ _, Oz.keeps_eq _ _, Oz.keeps_eq _ _, Oz.keeps_eq _ _, Oz.keeps_eq _ _, Oz.keeps_eq _ _, Oz.keeps_box _ _ _, Oz.keeps_box _ _ _, Oz.keeps_eq _ _, trivial⟩ ?_
    apply Oz.walk_cons rfl
    · intro w1 hb hu hd ho K hK
      clear hu hd ho
      go_simp
      exact hK _ _ (Oz.good_same rfl rfl rfl)
    · intro v; simp only [Act.put, List.setIfInBounds_toArray, List.set_cons_succ, List.set_cons_zero]; exact rfl
    · intro v; exact (rfl : _ = ([v] : List Value))
    intro x54
    apply Oz.walk_cons rfl
    · intro w1 hb hu hd ho K hK
      clear hu hd ho
      go_simp
      exact hK _ _ (Oz.good_same rfl rfl rfl)
    · intro v; simp only [Act.put, List.setIfInBounds_toArray, List.set_cons_succ, List.set_cons_zero]; exact rfl
    · intro v; exact (rfl : _ = ([x54, v] : List Value))
    intro x55
    apply Oz.walk_cons rfl
    · intro w1 hb hu hd ho K hK
      clear hu hd ho
      go_simp
      exact hK _ _ (Oz.good_same rfl rfl rfl)
    · intro v; simp only [Act.put, List.setIfInBounds_toArray, List.set_cons_succ, List.set_cons_zero]; exact rfl
    · intro v; exact (rfl : _ = ([x54, x55, v] : List Value))
    intro x56
    apply Oz.walk_cons rfl
    · intro w1 hb hu hd ho K hK
      have e54 : _ = x54 := Eq.symm (hd 0 (by kernel_rfl))
      subst e54
      have e55 : _ = x55 := Eq.symm (hd 1 (by kernel_rfl))
      subst e55
      have e56 : _ = x56 := Eq.symm (hd 2 (by kernel_rfl))
      subst e56
      have hz := hb.size
      have hbw : Below w.heap.size w w1 := HW3.out.trans ((HBR.out.drew.trans (hb.mono HBR.out.size)).mono HW3.out.size)
      clear hu hd ho
      go_simp
      refine (HJN.out o w1 hbw).mono ?_
      rintro e w2 ⟨v, rfl, hown, hb2⟩
      go_simp
      exact hK _ _ (Oz.good_new rfl hz hb2 (own_low hown (Nat.zero_le _)) (fun g hg => hown.lt g ((Oz.own_slice hown).symm.trans hg)))
    · intro v; simp only [Act.put, List.setIfInBounds_toArray, List.set_cons_succ, List.set_cons_zero]; exact rfl
    · intro v; exact (rfl : _ = ([x54, x55, x56, v] : List Value))
    intro x57
    apply Oz.walk_cons rfl
    · intro w1 hb hu hd ho K hK
      clear hu hd ho
      have hfull : Below w3.heap.size w3 w1 := HBR.out.drew.trans (hb.mono HBR.out.size)
      have c0 := (hfull.cell (cell_lt g0)).trans g0
      have c1 := (hfull.cell (cell_lt g1)).trans g1
      have c2 := (hfull.cell (cell_lt g2)).trans g2
      clear hfull
      go_simp
      exact hK _ _ (Oz.good_same rfl rfl rfl)
    · intro v; simp only [Act.put, List.setIfInBounds_toArray, List.set_cons_succ, List.set_cons_zero]; exact rfl
    · intro v; exact (rfl : _ = ([x54, x55, x56, x57, v] : List Value))
    intro x58
    apply Oz.walk_cons rfl
    · intro w1 hb hu hd ho K hK
      have h57 := hd 3 (by kernel_rfl)
      have e58 : _ = x58 := Eq.symm (hd 4 (by kernel_rfl))
      subst e58
      have hbw : Below w.heap.size w w1 := HW3.out.trans ((HBR.out.drew.trans (hb.mono HBR.out.size)).mono HW3.out.size)
      clear hu hd ho
      go_simp
      refine (HJ.out _ w1 hbw HE.out h57).mono ?_
      rintro e w2 ⟨rfl, hb2⟩
      go_simp
      exact hK _ _ (Oz.good_below rfl rfl hb2 rfl)
    · intro v; simp only [Act.put, List.setIfInBounds_toArray, List.set_cons_succ, List.set_cons_zero]; exact rfl
    · intro v; exact (rfl : _ = ([x54, x55, x56, x57, x58, v] : List Value))
    intro x59
    apply Oz.walk_cons rfl
    · intro w1 hb hu hd ho K hK
      have e59 : _ = x59 := Eq.symm (hd 5 (by kernel_rfl))
      subst e59
      clear hu hd ho
      go_simp
      exact hK _ _ (Oz.good_same rfl rfl rfl)
    · intro v; simp only [Act.put, List.setIfInBounds_toArray, List.set_cons_succ, List.set_cons_zero]; exact rfl
    · intro v; exact (rfl : _ = ([x54, x55, x56, x57, x58, x59, v] : List Value))
    intro x53
    apply Oz.walk_cons rfl
    · intro w1 hb hu hd ho K hK
      have e53 : _ = x53 := Eq.symm (hd 6 (by kernel_rfl))
      subst e53
      clear hu hd ho
      go_simp
      exact hK _ _ (Oz.good_same rfl rfl rfl)
    · intro v; simp only [Act.put, List.setIfInBounds_toArray, List.set_cons_succ, List.set_cons_zero]; exact rfl
    · intro v; exact (rfl : _ = ([x54, x55, x56, x57, x58, x59, x53, v] : List Value))
    intro x60
    apply Oz.walk_cons rfl
    · intro w1 hb hu hd ho K hK
      have e53 : _ = x53 := Eq.symm (hd 6 (by kernel_rfl))
      subst e53
      clear hu hd ho
      go_simp
      exact hK _ _ (Oz.good_same rfl rfl rfl)
    · intro v; simp only [Act.put, List.setIfInBounds_toArray, List.set_cons_succ, List.set_cons_zero]; exact rfl
    · intro v; exact (rfl : _ = ([x54, x55, x56, x57, x58, x59, x53, x60, v] : List Value))
    intro x61
    apply Oz.walk_cons rfl
    · intro w1 hb hu hd ho K hK
      have hz := hb.size
      clear hu hd ho
      go_simp
      exact hK _ _ (Oz.good_box (b0 := 0) rfl (Nat.zero_le _) hz rfl)
    · intro v; simp only [Act.put, List.setIfInBounds_toArray, List.set_cons_succ, List.set_cons_zero]; exact rfl
    · intro v; exact (rfl : _ = ([x54, x55, x56, x57, x58, x59, x53, x60, x61, v] : List Value))
    intro x12
    apply Oz.walk_cons rfl
    · intro w1 hb hu hd ho K hK
      have h12 := hd 9 (by kernel_rfl)
      have e60 : _ = x60 := Eq.symm (hd 7 (by kernel_rfl))
      subst e60
      have hz := hb.size
      have hoo := ho 9 (by kernel_rfl) rfl
      obtain ⟨b, rfl, hb0, hh⟩ := h12
      have dq0 : w1.cell? ⟨b, 0, none⟩ = some (.int .i64 0) := by simp [World.cell?, hh]
      have fq0 : w1.frozen? ⟨b, 0, none⟩ = false := by simp [World.frozen?, hh]
      have dq1 : w1.cell? ⟨b, 1, none⟩ = some (.int .i64 0) := by simp [World.cell?, hh]
      have fq1 : w1.frozen? ⟨b, 1, none⟩ = false := by simp [World.frozen?, hh]
      have dq2 : w1.cell? ⟨b, 2, none⟩ = some (.int .i64 0) := by simp [World.cell?, hh]
      have fq2 : w1.frozen? ⟨b, 2, none⟩ = false := by simp [World.frozen?, hh]
      have kq0 := heap_setCell_same _ _ 0 _ _ (.int .i64 jk) hh
      have kq1 := heap_setCell_same _ _ 1 _ _ (.int .i64 ja) kq0
      have kq2 := heap_setCell_same _ _ 2 _ _ (.int .i64 jb) kq1
      clear hu hd ho
      go_simp
      exact hK undef _ (Oz.good_put (k := 9) (cs := #[.int .i64 jk, .int .i64 ja, .int .i64 jb]) rfl rfl hb0 hz (Oz.setAll_grown b [.int .i64 jk, .int .i64 ja, .int .i64 jb] 0 w1) rfl kq2 hoo)
    · intro v; exact rfl
    · intro v; exact (rfl : _ = ([x54, x55, x56, x57, x58, x59, x53, x60, x61, x12, x12] : List Value))
    intro xn10
    apply Oz.walk_cons rfl
    · intro w1 hb hu hd ho K hK
      have e61 : _ = x61 := Eq.symm (hd 8 (by kernel_rfl))
      subst e61
      clear hu hd ho
      go_simp
      exact hK _ _ (Oz.good_same rfl rfl rfl)
    · intro v; simp only [Act.put, List.setIfInBounds_toArray, List.set_cons_succ, List.set_cons_zero]; exact rfl
    · intro v; exact (rfl : _ = ([x54, x55, x56, x57, x58, x59, x53, x60, x61, x12, x12, v] : List Value))
    intro x13
    refine Oz.walk_nil rfl (fun w1 hb hu hd => ?_)
    have e54 : _ = x54 := Eq.symm (hd 0 (by kernel_rfl))
    subst e54
    have e55 : _ = x55 := Eq.symm (hd 1 (by kernel_rfl))
    subst e55
    have e56 : _ = x56 := Eq.symm (hd 2 (by kernel_rfl))
    subst e56
    have h57 := hd 3 (by kernel_rfl)
    have e58 : _ = x58 := Eq.symm (hd 4 (by kernel_rfl))
    subst e58
    have e59 : _ = x59 := Eq.symm (hd 5 (by kernel_rfl))
    subst e59
    have e53 : _ = x53 := Eq.symm (hd 6 (by kernel_rfl))
    subst e53
    have e60 : _ = x60 := Eq.symm (hd 7 (by kernel_rfl))
    subst e60
    have e61 : _ = x61 := Eq.symm (hd 8 (by kernel_rfl))
    subst e61
    have hn10 := hd 10 (by kernel_rfl)
    have e13 : _ = x13 := Eq.symm (hd 11 (by kernel_rfl))
    subst e13
    clear hd hu
    have HBN := Lib.hid (HBR.out.drew.trans (hb.mono HBR.out.size))
    obtain ⟨bx, rfl, _, hh⟩ := hn10
    obtain ⟨r0, r1, r2, _⟩ := at3 hh
    clear hb hh
    go_simp
    obtain ⟨wn, hwq⟩ : ∃ W, W = w1 := ⟨_, rfl⟩
    subst hwq
    have fx0 := (HBN.out.cell (cell_lt hx0)).trans hx0
    have fx1 := (HBN.out.cell (cell_lt hx1)).trans hx1
    have fx2 := (HBN.out.cell (cell_lt hx2)).trans hx2
    have fy0 := (HBN.out.cell (cell_lt hy0)).trans hy0
    have fy1 := (HBN.out.cell (cell_lt hy1)).trans hy1
    have fy2 := (HBN.out.cell (cell_lt hy2)).trans hy2
    have hlt1 := cell_lt fx0
    have hlt2 := cell_lt fy0
    have hbA : Below wn.heap.size wn ((wn.alloc (.cells #[.string ⟨#[97]⟩, .int .i64 0, .int .i64 0, .int .i64 0, .int .i64 0, .int .i64 0, .int .i64 0, .string ⟨#[98]⟩, .int .i64 0, .int .i64 0, .int .i64 0, .int .i64 0, .int .i64 0, .int .i64 0] 39)).alloc (.cells #[.int .i64 xk, .int .i64 xa, .int .i64 xb, .int .i64 yk, .int .i64 ya, .int .i64 yb] 23)) := ((Below.refl _ _).alloc (Nat.le_refl _) _).alloc (by simp) _
    have hbW : Below wn.heap.size wn (((wn.alloc (.cells #[.string ⟨#[97]⟩, .int .i64 0, .int .i64 0, .int .i64 0, .int .i64 0, .int .i64 0, .int .i64 0, .string ⟨#[98]⟩, .int .i64 0, .int .i64 0, .int .i64 0, .int .i64 0, .int .i64 0, .int .i64 0] 39)).alloc (.cells #[.int .i64 xk, .int .i64 xa, .int .i64 xb, .int .i64 yk, .int .i64 ya, .int .i64 yb] 23)).alloc (.cells #[.slice (some ⟨wn.heap.size, 0, none⟩) 2 2, .slice (some ⟨wn.heap.size + 1, 0, none⟩) 2 2, .slice none 0 0] 31)) := hbA.alloc hbA.size _
    have hbE : Below wn.heap.size wn ((((wn.alloc (.cells #[.string ⟨#[97]⟩, .int .i64 0, .int .i64 0, .int .i64 0, .int .i64 0, .int .i64 0, .int .i64 0, .string ⟨#[98]⟩, .int .i64 0, .int .i64 0, .int .i64 0, .int .i64 0, .int .i64 0, .int .i64 0] 39)).alloc (.cells #[.int .i64 xk, .int .i64 xa, .int .i64 xb, .int .i64 yk, .int .i64 ya, .int .i64 yb] 23)).alloc (.cells #[.slice (some ⟨wn.heap.size, 0, none⟩) 2 2, .slice (some ⟨wn.heap.size + 1, 0, none⟩) 2 2, .slice none 0 0] 31)).alloc (.cells #[.int .i64 5, .int .i64 0, .string ⟨#[97]⟩, .int .i64 5, .int .i64 0, .string ⟨#[98]⟩, .int .i64 o, .int .i64 0, .string ⟨#[]⟩] 41)) := hbW.alloc hbW.size _
    have hri : RdI ((((wn.alloc (.cells #[.string ⟨#[97]⟩, .int .i64 0, .int .i64 0, .int .i64 0, .int .i64 0, .int .i64 0, .int .i64 0, .string ⟨#[98]⟩, .int .i64 0, .int .i64 0, .int .i64 0, .int .i64 0, .int .i64 0, .int .i64 0] 39)).alloc (.cells #[.int .i64 xk, .int .i64 xa, .int .i64 xb, .int .i64 yk, .int .i64 ya, .int .i64 yb] 23)).alloc (.cells #[.slice (some ⟨wn.heap.size, 0, none⟩) 2 2, .slice (some ⟨wn.heap.size + 1, 0, none⟩) 2 2, .slice none 0 0] 31)).alloc (.cells #[.int .i64 5, .int .i64 0, .string ⟨#[97]⟩, .int .i64 5, .int .i64 0, .string ⟨#[98]⟩, .int .i64 o, .int .i64 0, .string ⟨#[]⟩] 41)) (.slice (some ⟨wn.heap.size + 1 + 1 + 1, 0, none⟩) 3 3) (twoC o) := by
      have h := rd_new_cells (((wn.alloc (.cells #[.string ⟨#[97]⟩, .int .i64 0, .int .i64 0, .int .i64 0, .int .i64 0, .int .i64 0, .int .i64 0, .string ⟨#[98]⟩, .int .i64 0, .int .i64 0, .int .i64 0, .int .i64 0, .int .i64 0, .int .i64 0] 39)).alloc (.cells #[.int .i64 xk, .int .i64 xa, .int .i64 xb, .int .i64 yk, .int .i64 ya, .int .i64 yb] 23)).alloc (.cells #[.slice (some ⟨wn.heap.size, 0, none⟩) 2 2, .slice (some ⟨wn.heap.size + 1, 0, none⟩) 2 2, .slice none 0 0] 31)) (twoC o) #[.int .i64 5, .int .i64 0, .string ⟨#[97]⟩, .int .i64 5, .int .i64 0, .string ⟨#[98]⟩, .int .i64 o, .int .i64 0, .string ⟨#[]⟩] 41 3 rfl rfl
      rw [show (((wn.alloc (.cells #[.string ⟨#[97]⟩, .int .i64 0, .int .i64 0, .int .i64 0, .int .i64 0, .int .i64 0, .int .i64 0, .string ⟨#[98]⟩, .int .i64 0, .int .i64 0, .int .i64 0, .int .i64 0, .int .i64 0, .int .i64 0] 39)).alloc (.cells #[.int .i64 xk, .int .i64 xa, .int .i64 xb, .int .i64 yk, .int .i64 ya, .int .i64 yb] 23)).alloc (.cells #[.slice (some ⟨wn.heap.size, 0, none⟩) 2 2, .slice (some ⟨wn.heap.size + 1, 0, none⟩) 2 2, .slice none 0 0] 31)).heap.size = wn.heap.size + 1 + 1 + 1 by simp] at h
      exact Or.inr ⟨_, _, rfl, h⟩
    have hrv0 : Inn (wn.alloc (.cells #[.string ⟨#[97]⟩, .int .i64 0, .int .i64 0, .int .i64 0, .int .i64 0, .int .i64 0, .int .i64 0, .string ⟨#[98]⟩, .int .i64 0, .int .i64 0, .int .i64 0, .int .i64 0, .int .i64 0, .int .i64 0] 39)) 7 (.slice (some ⟨wn.heap.size, 0, none⟩) 2 2) 2 (flatV twoV) := Inn.of_own (Oz.own_laid (B := 0) (size := 7) wn #[.string ⟨#[97]⟩, .int .i64 0, .int .i64 0, .int .i64 0, .int .i64 0, .int .i64 0, .int .i64 0, .string ⟨#[98]⟩, .int .i64 0, .int .i64 0, .int .i64 0, .int .i64 0, .int .i64 0, .int .i64 0] (Nat.zero_le _) (by decide) rfl)
    have hrx0 : Inn ((wn.alloc (.cells #[.string ⟨#[97]⟩, .int .i64 0, .int .i64 0, .int .i64 0, .int .i64 0, .int .i64 0, .int .i64 0, .string ⟨#[98]⟩, .int .i64 0, .int .i64 0, .int .i64 0, .int .i64 0, .int .i64 0, .int .i64 0] 39)).alloc (.cells #[.int .i64 xk, .int .i64 xa, .int .i64 xb, .int .i64 yk, .int .i64 ya, .int .i64 yb] 23)) 3 (.slice (some ⟨wn.heap.size + 1, 0, none⟩) 2 2) 2 (flatX [⟨xk, xa, xb⟩, ⟨yk, ya, yb⟩]) := by
      have h := Inn.of_own (Oz.own_laid (B := 0) (e := 23) (n := 2) (size := 3) (wn.alloc (.cells #[.string ⟨#[97]⟩, .int .i64 0, .int .i64 0, .int .i64 0, .int .i64 0, .int .i64 0, .int .i64 0, .string ⟨#[98]⟩, .int .i64 0, .int .i64 0, .int .i64 0, .int .i64 0, .int .i64 0, .int .i64 0] 39)) #[.int .i64 xk, .int .i64 xa, .int .i64 xb, .int .i64 yk, .int .i64 ya, .int .i64 yb] (Nat.zero_le _) (by decide) rfl)
      rw [show (wn.alloc (.cells #[.string ⟨#[97]⟩, .int .i64 0, .int .i64 0, .int .i64 0, .int .i64 0, .int .i64 0, .int .i64 0, .string ⟨#[98]⟩, .int .i64 0, .int .i64 0, .int .i64 0, .int .i64 0, .int .i64 0, .int .i64 0] 39)).heap.size = wn.heap.size + 1 by simp] at h
      exact h
    have hrv : RdV ((((wn.alloc (.cells #[.string ⟨#[97]⟩, .int .i64 0, .int .i64 0, .int .i64 0, .int .i64 0, .int .i64 0, .int .i64 0, .string ⟨#[98]⟩, .int .i64 0, .int .i64 0, .int .i64 0, .int .i64 0, .int .i64 0, .int .i64 0] 39)).alloc (.cells #[.int .i64 xk, .int .i64 xa, .int .i64 xb, .int .i64 yk, .int .i64 ya, .int .i64 yb] 23)).alloc (.cells #[.slice (some ⟨wn.heap.size, 0, none⟩) 2 2, .slice (some ⟨wn.heap.size + 1, 0, none⟩) 2 2, .slice none 0 0] 31)).alloc (.cells #[.int .i64 5, .int .i64 0, .string ⟨#[97]⟩, .int .i64 5, .int .i64 0, .string ⟨#[98]⟩, .int .i64 o, .int .i64 0, .string ⟨#[]⟩] 41)) (.slice (some ⟨wn.heap.size, 0, none⟩) 2 2) twoV := hrv0.below ((((Below.refl _ _).alloc (Nat.le_refl _) _).alloc (by simp) _).alloc (by first | (simp; done) | (simp; omega)) _)
    have hrx : RdX ((((wn.alloc (.cells #[.string ⟨#[97]⟩, .int .i64 0, .int .i64 0, .int .i64 0, .int .i64 0, .int .i64 0, .int .i64 0, .string ⟨#[98]⟩, .int .i64 0, .int .i64 0, .int .i64 0, .int .i64 0, .int .i64 0, .int .i64 0] 39)).alloc (.cells #[.int .i64 xk, .int .i64 xa, .int .i64 xb, .int .i64 yk, .int .i64 ya, .int .i64 yb] 23)).alloc (.cells #[.slice (some ⟨wn.heap.size, 0, none⟩) 2 2, .slice (some ⟨wn.heap.size + 1, 0, none⟩) 2 2, .slice none 0 0] 31)).alloc (.cells #[.int .i64 5, .int .i64 0, .string ⟨#[97]⟩, .int .i64 5, .int .i64 0, .string ⟨#[98]⟩, .int .i64 o, .int .i64 0, .string ⟨#[]⟩] 41)) (.slice (some ⟨wn.heap.size + 1, 0, none⟩) 2 2) [⟨xk, xa, xb⟩, ⟨yk, ya, yb⟩] := hrx0.below (((Below.refl _ _).alloc (Nat.le_refl _) _).alloc (by simp) _)
    have HRI := Lib.hid hri; have HRV := Lib.hid hrv; have HRX := Lib.hid hrx
    have HBE := Lib.hid hbE
    clear g0 g1 g2 hx0 hx1 hx2 hy0 hy1 hy2 hbA hbW hbE hri hrv hrx hrv0 hrx0
    go_wp2_with fail
    refine (HOF2.out _ _ _ _ HRI.out HRV.out HRX.out).mono ?_
    rintro e w4 ⟨rfl, hb4⟩
    have HB4 := Lib.hid (HBE.out.trans (hb4.mono HBE.out.size))
    have c0 := old_cell (o := (.cells #[.int .i64 jk, .int .i64 ja, .int .i64 jb] 23)) ((HB4.out.cell (cell_lt r0)).trans r0)
    have c1 := old_cell (o := (.cells #[.int .i64 jk, .int .i64 ja, .int .i64 jb] 23)) ((HB4.out.cell (cell_lt r1)).trans r1)
    have c2 := old_cell (o := (.cells #[.int .i64 jk, .int .i64 ja, .int .i64 jb] 23)) ((HB4.out.cell (cell_lt r2)).trans r2)
    have HB5 := Lib.hid ((HBN.out.trans (HB4.out.mono HBN.out.size)).alloc (HBN.out.trans (HB4.out.mono HBN.out.size)).size (.cells #[.int .i64 jk, .int .i64 ja, .int .i64 jb] 23))
    clear hb4 r0 r1 r2 fx0 fx1 fx2 fy0 fy1 fy2 hlt1 hlt2
    go_wp2
    go_roundw
    case rel => exact ⟨o + 1, by omega, by omega, by first | rfl | (rw [hw]), HB5.out⟩
    case measure => simp [intOf]; omega
end Go.Proofs.Ytpidikbhjiaogaa
