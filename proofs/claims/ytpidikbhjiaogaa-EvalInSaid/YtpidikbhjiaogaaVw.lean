/- The laws EvalRight, EvalOf walked. -/
import Derived.Test.YtpidikbhjiaogaaVu
namespace Go.Proofs.Ytpidikbhjiaogaa
open Go.RowKit

set_option maxRecDepth 100000 in
set_option maxHeartbeats 2000000 in
theorem evalRight_law (kd a b : Int) (w : World) :
    Calls Try.prog 3 #[.agg #[.int .i64 kd, .int .i64 a, .int .i64 b]] w fun e w' => e = .returned (.bool true) ∧ Below w.heap.size w w' := by
  have h1 := fun W => evRight_any ⟨kd, a, b⟩ W
  have h2 := fun W => rRight_any ⟨kd, a, b⟩ W
  generalize rightV ⟨kd, a, b⟩ = r at *
  have HE1 : Hid (∀ W, Calls Try.prog 10 #[.agg #[.int .i64 kd, .int .i64 a, .int .i64 b]] W fun e w' => e = .returned (.bool r) ∧ Below W.heap.size W w') := h1
  have HE2 : Hid (∀ W, Calls Try.prog 11 #[.agg #[.int .i64 kd, .int .i64 a, .int .i64 b]] W fun e w' => e = .returned (.bool r) ∧ Below W.heap.size W w') := h2
  have HBX : Hid (Below w.heap.size w (w.alloc (.cells #[.int .i64 kd, .int .i64 a, .int .i64 b] 23))) := (Below.refl _ _).alloc (Nat.le_refl _) _
  clear h1 h2
  go_enter Try.func3, Try.ntmps3
  go_wp2_with fail
  refine Oz.region_own' 11 [Ow.eqR (.bool true), Ow.eqR (.bool true), Ow.eqR (.agg #[.int .i64 kd, .int .i64 a, .int .i64 b]), Ow.eqR (.bool r), Ow.eqR (.agg #[.int .i64 kd, .int .i64 a, .int .i64 b]), Ow.eqR (.bool r), Ow.eqR (.bool true), Ow.eqR (.bool true), Ow.eqR (.bool true)] [false, false, false, false, false, false, false, false, false] [none, none, none, none, none, none, none, none, none] (by kernel_rfl) rfl (by kernel_rfl) ⟨Oz.keeps_eq _ _, Oz.keeps_eq _ _, Oz.keeps_eq _ _, Oz.keeps_eq _ _, Oz.keeps_eq _ _, Oz.keeps_eq _ _, Oz.keeps_eq _ _, Oz.keeps_eq _ _, Oz.keeps_eq _ _, trivial⟩ ?_
  apply Oz.walk_cons rfl
  · intro w1 hb hu hd ho K hK
    clear hu hd ho
    go_simp
    refine (wakes5_any w1).mono ?_
    rintro e w2 ⟨rfl, hb2⟩
    go_simp
    exact hK _ _ (Oz.good_below rfl rfl hb2 rfl)
  · intro v; simp only [Act.put, List.setIfInBounds_toArray, List.set_cons_succ, List.set_cons_zero]; exact rfl
  · intro v; exact (rfl : _ = ([v] : List Value))
  intro x3
  apply Oz.walk_cons rfl
  · intro w1 hb hu hd ho K hK
    have e3 : _ = x3 := Eq.symm (hd 0 (by kernel_rfl))
    subst e3
    clear hu hd ho
    go_simp
    exact hK _ _ (Oz.good_same rfl rfl rfl)
  · intro v; simp only [Act.put, List.setIfInBounds_toArray, List.set_cons_succ, List.set_cons_zero]; exact rfl
  · intro v; exact (rfl : _ = ([x3, v] : List Value))
  intro x4
  apply Oz.walk_cons rfl
  · intro w1 hb hu hd ho K hK
    have e4 : _ = x4 := Eq.symm (hd 1 (by kernel_rfl))
    subst e4
    clear hu hd ho
    have c0 : w1.cell? ⟨w.heap.size, 0, none⟩ = some (.int .i64 kd) := (hb.cell (by simp)).trans (by simp)
    have c1 : w1.cell? ⟨w.heap.size, 1, none⟩ = some (.int .i64 a) := (hb.cell (by simp)).trans (by simp)
    have c2 : w1.cell? ⟨w.heap.size, 2, none⟩ = some (.int .i64 b) := (hb.cell (by simp)).trans (by simp)
    go_simp
    exact hK _ _ (Oz.good_same rfl rfl rfl)
  · intro v; simp only [Act.put, List.setIfInBounds_toArray, List.set_cons_succ, List.set_cons_zero]; exact rfl
  · intro v; exact (rfl : _ = ([x3, x4, v] : List Value))
  intro x5
  apply Oz.walk_cons rfl
  · intro w1 hb hu hd ho K hK
    have e5 : _ = x5 := Eq.symm (hd 2 (by kernel_rfl))
    subst e5
    have e4 : _ = x4 := Eq.symm (hd 1 (by kernel_rfl))
    subst e4
    clear hu hd ho
    go_simp
    refine (HE1.out w1).mono ?_
    rintro e w2 ⟨rfl, hb2⟩
    go_simp
    exact hK _ _ (Oz.good_below rfl rfl hb2 rfl)
  · intro v; simp only [Act.put, List.setIfInBounds_toArray, List.set_cons_succ, List.set_cons_zero]; exact rfl
  · intro v; exact (rfl : _ = ([x3, x4, x5, v] : List Value))
  intro x6
  apply Oz.walk_cons rfl
  · intro w1 hb hu hd ho K hK
    have e4 : _ = x4 := Eq.symm (hd 1 (by kernel_rfl))
    subst e4
    clear hu hd ho
    have c0 : w1.cell? ⟨w.heap.size, 0, none⟩ = some (.int .i64 kd) := (hb.cell (by simp)).trans (by simp)
    have c1 : w1.cell? ⟨w.heap.size, 1, none⟩ = some (.int .i64 a) := (hb.cell (by simp)).trans (by simp)
    have c2 : w1.cell? ⟨w.heap.size, 2, none⟩ = some (.int .i64 b) := (hb.cell (by simp)).trans (by simp)
    go_simp
    exact hK _ _ (Oz.good_same rfl rfl rfl)
  · intro v; simp only [Act.put, List.setIfInBounds_toArray, List.set_cons_succ, List.set_cons_zero]; exact rfl
  · intro v; exact (rfl : _ = ([x3, x4, x5, x6, v] : List Value))
  intro x7
  apply Oz.walk_cons rfl
  · intro w1 hb hu hd ho K hK
    have e7 : _ = x7 := Eq.symm (hd 4 (by kernel_rfl))
    subst e7
    have e4 : _ = x4 := Eq.symm (hd 1 (by kernel_rfl))
    subst e4
    clear hu hd ho
    go_simp
    refine (HE2.out w1).mono ?_
    rintro e w2 ⟨rfl, hb2⟩
    go_simp
    exact hK _ _ (Oz.good_below rfl rfl hb2 rfl)
  · intro v; simp only [Act.put, List.setIfInBounds_toArray, List.set_cons_succ, List.set_cons_zero]; exact rfl
  · intro v; exact (rfl : _ = ([x3, x4, x5, x6, x7, v] : List Value))
  intro x8
  apply Oz.walk_cons rfl
  · intro w1 hb hu hd ho K hK
    have e6 : _ = x6 := Eq.symm (hd 3 (by kernel_rfl))
    subst e6
    have e8 : _ = x8 := Eq.symm (hd 5 (by kernel_rfl))
    subst e8
    have e4 : _ = x4 := Eq.symm (hd 1 (by kernel_rfl))
    subst e4
    clear hu hd ho
    go_simp
    exact hK _ _ (Oz.good_same rfl rfl rfl)
  · intro v; simp only [Act.put, List.setIfInBounds_toArray, List.set_cons_succ, List.set_cons_zero]; exact rfl
  · intro v; exact (rfl : _ = ([x3, x4, x5, x6, x7, x8, v] : List Value))
  intro x9
  apply Oz.walk_cons rfl
  · intro w1 hb hu hd ho K hK
    have e4 : _ = x4 := Eq.symm (hd 1 (by kernel_rfl))
    subst e4
    have e9 : _ = x9 := Eq.symm (hd 6 (by kernel_rfl))
    subst e9
    clear hu hd ho
    go_simp
    exact hK _ _ (Oz.good_same rfl rfl rfl)
  · intro v; simp only [Act.put, List.setIfInBounds_toArray, List.set_cons_succ, List.set_cons_zero]; exact rfl
  · intro v; exact (rfl : _ = ([x3, x4, x5, x6, x7, x8, x9, v] : List Value))
  intro x10
  apply Oz.walk_cons rfl
  · intro w1 hb hu hd ho K hK
    have e10 : _ = x10 := Eq.symm (hd 7 (by kernel_rfl))
    subst e10
    clear hu hd ho
    go_simp
    exact hK _ _ (Oz.good_same rfl rfl rfl)
  · intro v; simp only [Act.put, List.setIfInBounds_toArray, List.set_cons_succ, List.set_cons_zero]; exact rfl
  · intro v; exact (rfl : _ = ([x3, x4, x5, x6, x7, x8, x9, x10, v] : List Value))
  intro x2
  refine Oz.walk_nil rfl (fun w1 hb hu hd => ?_)
  have e3 : _ = x3 := Eq.symm (hd 0 (by kernel_rfl))
  subst e3
  have e4 : _ = x4 := Eq.symm (hd 1 (by kernel_rfl))
  subst e4
  have e5 : _ = x5 := Eq.symm (hd 2 (by kernel_rfl))
  subst e5
  have e6 : _ = x6 := Eq.symm (hd 3 (by kernel_rfl))
  subst e6
  have e7 : _ = x7 := Eq.symm (hd 4 (by kernel_rfl))
  subst e7
  have e8 : _ = x8 := Eq.symm (hd 5 (by kernel_rfl))
  subst e8
  have e9 : _ = x9 := Eq.symm (hd 6 (by kernel_rfl))
  subst e9
  have e10 : _ = x10 := Eq.symm (hd 7 (by kernel_rfl))
  subst e10
  have e2 : _ = x2 := Eq.symm (hd 8 (by kernel_rfl))
  subst e2
  clear hd hu
  have HB1 : Hid (Below w.heap.size w w1) := HBX.out.trans (((Below.refl _ _).drew.trans hb).mono HBX.out.size)
  clear hb
  go_simp
  go_wp2
  go_ret
  exact ⟨rfl, HB1.out⟩

set_option maxRecDepth 100000 in
set_option maxHeartbeats 4000000 in
theorem evalOf_law (vl vv xv sv : Value) (cs : List CM) (vs : List VM) (xs : List VA) (ss : List (List UInt8)) (w : World) (hR : RdI w vl cs) (hl : cs.length * 32 ≤ 140737488355328) (hN : Names cs) (hV : RdV w vv vs) (hvl : vs.length * 64 ≤ 140737488355328) (hX : RdX w xv xs) (hxl : xs.length * 24 ≤ 140737488355328) (hS : RdW w sv ss) (hsl : ss.length * 16 ≤ 140737488355328) (hi : ∀ x ∈ xs, inL x.a = true) :
    Calls Try.prog 4 #[vl, .agg #[vv, xv, sv]] w fun e w' => e = .returned (.bool true) ∧ Below w.heap.size w w' := by
  have h1 := fun W (hb : Below w.heap.size w W) => of5_any vl vv xv sv cs vs xs ss W (hR.below hb) hl (hV.below hb) hvl (hX.below hb) hxl (hS.below hb) hsl hi
  have h2 := fun W (hb : Below w.heap.size w W) => refEvOf_any vl vv xv sv cs vs xs ss W (hR.below hb).rd (by omega) hN (hV.below hb) (hX.below hb) (hS.below hb) (by omega) (by omega) (by omega) hi
  obtain ⟨V, vc, rfl⟩ := hV.form
  obtain ⟨X, xc, rfl⟩ := hX.form
  obtain ⟨S, sc, rfl⟩ := hS.form
  obtain ⟨A, c0, rfl⟩ := hR.inn.form
  generalize evP vs xs ss cs = p at *
  obtain ⟨⟨rk, ra, rb⟩, re⟩ := p
  have HE1 : Hid (∀ W, Below w.heap.size w W → Calls Try.prog 12 #[.slice A cs.length c0, .agg #[.slice V vs.length vc, .slice X xs.length xc, .slice S ss.length sc]] W fun e w' => e = .returned (.tuple #[.agg #[.int .i64 rk, .int .i64 ra, .int .i64 rb], .int .i64 re]) ∧ Below W.heap.size W w') := h1
  have HE2 : Hid (∀ W, Below w.heap.size w W → Calls Try.prog 13 #[.slice A cs.length c0, .slice V vs.length vc, .slice X xs.length xc, .slice S ss.length sc] W fun e w' => e = .returned (.tuple #[.agg #[.int .i64 rk, .int .i64 ra, .int .i64 rb], .int .i64 re]) ∧ Below W.heap.size W w') := h2
  have HBX : Hid (Below w.heap.size w (w.alloc (.cells #[.slice V vs.length vc, .slice X xs.length xc, .slice S ss.length sc] 31))) := (Below.refl _ _).alloc (Nat.le_refl _) _
  clear h1 h2 hR hV hX hS hi
  go_enter Try.func4, Try.ntmps4
  go_wp2_with fail
  refine (HE1.out _ HBX.out).mono ?_
  rintro e w1 ⟨rfl, hb1⟩
  have HB1 := Lib.hid (HBX.out.trans (hb1.mono HBX.out.size))
  have g0 := old_cell (o := (.cells #[.int .i64 rk, .int .i64 ra, .int .i64 rb] 23)) ((hb1.cell (p := ⟨w.heap.size, 0, none⟩) (by simp)).trans (new_cell (v := .slice V vs.length vc) rfl rfl))
  have g1 := old_cell (o := (.cells #[.int .i64 rk, .int .i64 ra, .int .i64 rb] 23)) ((hb1.cell (p := ⟨w.heap.size, 1, none⟩) (by simp)).trans (new_cell (v := .slice X xs.length xc) rfl rfl))
  have g2 := old_cell (o := (.cells #[.int .i64 rk, .int .i64 ra, .int .i64 rb] 23)) ((hb1.cell (p := ⟨w.heap.size, 2, none⟩) (by simp)).trans (new_cell (v := .slice S ss.length sc) rfl rfl))
  have HBA : Hid (Below w.heap.size w (w1.alloc (.cells #[.int .i64 rk, .int .i64 ra, .int .i64 rb] 23))) := HB1.out.alloc HB1.out.size _
  clear hb1
  go_wp2_with fail
  refine (HE2.out _ HBA.out).mono ?_
  rintro e w2 ⟨rfl, hb2⟩
  have HB2 := Lib.hid (HBA.out.trans (hb2.mono HBA.out.size))
  have c0 := old_cell (o := (.cells #[.int .i64 rk, .int .i64 ra, .int .i64 rb] 23)) ((hb2.cell (p := ⟨w1.heap.size, 0, none⟩) (by simp)).trans (new_cell (v := .int .i64 rk) rfl rfl))
  have c1 := old_cell (o := (.cells #[.int .i64 rk, .int .i64 ra, .int .i64 rb] 23)) ((hb2.cell (p := ⟨w1.heap.size, 1, none⟩) (by simp)).trans (new_cell (v := .int .i64 ra) rfl rfl))
  have c2 := old_cell (o := (.cells #[.int .i64 rk, .int .i64 ra, .int .i64 rb] 23)) ((hb2.cell (p := ⟨w1.heap.size, 2, none⟩) (by simp)).trans (new_cell (v := .int .i64 rb) rfl rfl))
  have HBC : Hid (Below w.heap.size w (w2.alloc (.cells #[.int .i64 rk, .int .i64 ra, .int .i64 rb] 23))) := HB2.out.alloc HB2.out.size _
  clear hb2 g0 g1 g2
  go_wp2_with fail
  refine (wakes5_any _).mono ?_
  rintro e w3 ⟨rfl, hb3⟩
  have HB3 := Lib.hid (HBC.out.trans (hb3.mono HBC.out.size))
  have e0 := (hb3.cell (cell_lt c0)).trans c0
  have e1 := (hb3.cell (cell_lt c1)).trans c1
  have e2 := (hb3.cell (cell_lt c2)).trans c2
  have k0 := (hb3.cell (p := ⟨w2.heap.size, 0, none⟩) (by simp)).trans (new_cell (v := .int .i64 rk) rfl rfl)
  have k1 := (hb3.cell (p := ⟨w2.heap.size, 1, none⟩) (by simp)).trans (new_cell (v := .int .i64 ra) rfl rfl)
  have k2 := (hb3.cell (p := ⟨w2.heap.size, 2, none⟩) (by simp)).trans (new_cell (v := .int .i64 rb) rfl rfl)
  clear hb3 c0 c1 c2
  go_wp2
  go_ret
  exact ⟨rfl, HB3.out⟩
end Go.Proofs.Ytpidikbhjiaogaa
