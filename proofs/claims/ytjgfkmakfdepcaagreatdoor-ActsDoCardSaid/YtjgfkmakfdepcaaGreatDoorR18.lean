/- Own texts, joined: A4, A5. -/
import Derived.Test.YtjgfkmakfdepcaaGreatDoorR15
import Derived.Test.YtjgfkmakfdepcaaGreatDoorR17
import Derived.Lib.BufferOwn
namespace Go.Proofs.YtjgfkmakfdepcaaGreatDoor
open Go.RowKit

theorem withinA_any (x : VM) (X : ByteArray) (n : Int) (w : World) :
    Calls Tryz.prog 97 #[.agg #[.string X, .int .i64 x.kd, .int .i64 x.lo, .int .i64 x.hi, .int .i64 x.ik, .int .i64 x.ia, .int .i64 x.ib], .int .i64 n] w fun e w' => e = .returned (.bool (decide (x.lo ≤ n ∧ n ≤ x.hi))) ∧ Below w.heap.size w w' := by
  have HB : Hid (∀ W : World, ∀ o : Obj, Below W.heap.size W (W.alloc o)) := fun W o => (Below.refl _ _).alloc (Nat.le_refl _) o
  by_cases h1 : x.lo ≤ n
  · by_cases h2 : n ≤ x.hi
    · rw [decide_eq_true ⟨h1, h2⟩]
      go_enter Tryz.func97, Tryz.ntmps97
      go_wp2
      go_ret
      exact ⟨rfl, HB.out _ _⟩
    · rw [decide_eq_false (fun h => h2 h.2)]
      go_enter Tryz.func97, Tryz.ntmps97
      go_wp2
      go_ret
      exact ⟨rfl, HB.out _ _⟩
  · rw [decide_eq_false (fun h => h1 h.1)]
    go_enter Tryz.func97, Tryz.ntmps97
    go_wp2
    go_ret
    exact ⟨rfl, HB.out _ _⟩

set_option maxRecDepth 100000 in
set_option maxHeartbeats 2000000 in
theorem mayHold_any (x : VM) (X : ByteArray) (y : VA) (w : World) :
    Calls Tryz.prog 67 #[.agg #[.string X, .int .i64 x.kd, .int .i64 x.lo, .int .i64 x.hi, .int .i64 x.ik, .int .i64 x.ia, .int .i64 x.ib], .agg #[.int .i64 y.kd, .int .i64 y.a, .int .i64 y.b]] w fun e w' => e = .returned (.bool (mayB x y)) ∧ Below w.heap.size w w' := by
  obtain ⟨yk, ya, yb⟩ := y
  obtain ⟨xnm, xkd, xlo, xhi, xik, xia, xib⟩ := x
  dsimp only
  have HW := Lib.hid (withinA_any ⟨xnm, xkd, xlo, xhi, xik, xia, xib⟩ X)
  have HB0 : Hid (∀ o1 o2 : Obj, Below w.heap.size w ((w.alloc o1).alloc o2)) := fun o1 o2 => ((Below.refl _ _).alloc (Nat.le_refl _) _).alloc (by simp) _
  by_cases h1 : yk = xkd
  · obtain rfl : xkd = yk := h1.symm
    have d0 : ((w.alloc (.cells #[.string X, .int .i64 xkd, .int .i64 xlo, .int .i64 xhi, .int .i64 xik, .int .i64 xia, .int .i64 xib] 56)).alloc (.cells #[.int .i64 xkd, .int .i64 ya, .int .i64 yb] 54)).cell? ⟨w.heap.size, 0, none⟩ = some (.string X) := by simp
    have d1 : ((w.alloc (.cells #[.string X, .int .i64 xkd, .int .i64 xlo, .int .i64 xhi, .int .i64 xik, .int .i64 xia, .int .i64 xib] 56)).alloc (.cells #[.int .i64 xkd, .int .i64 ya, .int .i64 yb] 54)).cell? ⟨w.heap.size, 1, none⟩ = some (.int .i64 xkd) := by simp
    have d2 : ((w.alloc (.cells #[.string X, .int .i64 xkd, .int .i64 xlo, .int .i64 xhi, .int .i64 xik, .int .i64 xia, .int .i64 xib] 56)).alloc (.cells #[.int .i64 xkd, .int .i64 ya, .int .i64 yb] 54)).cell? ⟨w.heap.size, 2, none⟩ = some (.int .i64 xlo) := by simp
    have d3 : ((w.alloc (.cells #[.string X, .int .i64 xkd, .int .i64 xlo, .int .i64 xhi, .int .i64 xik, .int .i64 xia, .int .i64 xib] 56)).alloc (.cells #[.int .i64 xkd, .int .i64 ya, .int .i64 yb] 54)).cell? ⟨w.heap.size, 3, none⟩ = some (.int .i64 xhi) := by simp
    have d4 : ((w.alloc (.cells #[.string X, .int .i64 xkd, .int .i64 xlo, .int .i64 xhi, .int .i64 xik, .int .i64 xia, .int .i64 xib] 56)).alloc (.cells #[.int .i64 xkd, .int .i64 ya, .int .i64 yb] 54)).cell? ⟨w.heap.size, 4, none⟩ = some (.int .i64 xik) := by simp
    have d5 : ((w.alloc (.cells #[.string X, .int .i64 xkd, .int .i64 xlo, .int .i64 xhi, .int .i64 xik, .int .i64 xia, .int .i64 xib] 56)).alloc (.cells #[.int .i64 xkd, .int .i64 ya, .int .i64 yb] 54)).cell? ⟨w.heap.size, 5, none⟩ = some (.int .i64 xia) := by simp
    have d6 : ((w.alloc (.cells #[.string X, .int .i64 xkd, .int .i64 xlo, .int .i64 xhi, .int .i64 xik, .int .i64 xia, .int .i64 xib] 56)).alloc (.cells #[.int .i64 xkd, .int .i64 ya, .int .i64 yb] 54)).cell? ⟨w.heap.size, 6, none⟩ = some (.int .i64 xib) := by simp
    have g0 : ((w.alloc (.cells #[.string X, .int .i64 xkd, .int .i64 xlo, .int .i64 xhi, .int .i64 xik, .int .i64 xia, .int .i64 xib] 56)).alloc (.cells #[.int .i64 xkd, .int .i64 ya, .int .i64 yb] 54)).cell? ⟨w.heap.size + 1, 0, none⟩ = some (.int .i64 xkd) := by simp
    have g1 : ((w.alloc (.cells #[.string X, .int .i64 xkd, .int .i64 xlo, .int .i64 xhi, .int .i64 xik, .int .i64 xia, .int .i64 xib] 56)).alloc (.cells #[.int .i64 xkd, .int .i64 ya, .int .i64 yb] 54)).cell? ⟨w.heap.size + 1, 1, none⟩ = some (.int .i64 ya) := by simp
    have g2 : ((w.alloc (.cells #[.string X, .int .i64 xkd, .int .i64 xlo, .int .i64 xhi, .int .i64 xik, .int .i64 xia, .int .i64 xib] 56)).alloc (.cells #[.int .i64 xkd, .int .i64 ya, .int .i64 yb] 54)).cell? ⟨w.heap.size + 1, 2, none⟩ = some (.int .i64 yb) := by simp
    by_cases h2 : xlo ≤ ya ∧ ya ≤ xhi
    · have HE := Lib.hid (decide_eq_true h2)
      by_cases h3 : xkd = 3
      · have HL : Hid (mayB ⟨xnm, xkd, xlo, xhi, xik, xia, xib⟩ ⟨xkd, ya, yb⟩ = decide (xlo ≤ yb ∧ yb ≤ xhi)) := by show mayB _ _ = _; simp only [mayB, decide_eq_true h2, h3]; simp
        rw [HL.out]
        subst h3
        clear h2
        go_enter Tryz.func67, Tryz.ntmps67
        go_wp2_with fail
        refine (HW.out _ _).mono ?_
        rintro e w1 ⟨rfl, hb1⟩
        rw [HE.out]
        have e0 := (hb1.cell (cell_lt d0)).trans d0
        have e1 := (hb1.cell (cell_lt d1)).trans d1
        have e2 := (hb1.cell (cell_lt d2)).trans d2
        have e3 := (hb1.cell (cell_lt d3)).trans d3
        have e4 := (hb1.cell (cell_lt d4)).trans d4
        have e5 := (hb1.cell (cell_lt d5)).trans d5
        have e6 := (hb1.cell (cell_lt d6)).trans d6
        have k0 := (hb1.cell (cell_lt g0)).trans g0
        have k1 := (hb1.cell (cell_lt g1)).trans g1
        have k2 := (hb1.cell (cell_lt g2)).trans g2
        have HB1 := Lib.hid ((HB0.out _ _).trans (hb1.mono (HB0.out _ _).size)); clear hb1 d0 d1 d2 d3 d4 d5 d6 g0 g1 g2
        go_wp2_with fail
        refine (HW.out _ _).mono ?_
        rintro e w2 ⟨rfl, hb2⟩
        have HB2 := Lib.hid (HB1.out.trans (hb2.mono HB1.out.size)); clear hb2
        go_wp2
        go_ret
        exact ⟨by rw [Bool.decide_and]; rfl, HB2.out⟩
      · have HL : Hid (mayB ⟨xnm, xkd, xlo, xhi, xik, xia, xib⟩ ⟨xkd, ya, yb⟩ = true) := by show mayB _ _ = _; simp only [mayB, decide_eq_true h2, decide_eq_true h3]; simp
        rw [HL.out]
        have h3' := int_ne h3
        have h3'' : (xkd != 3) = true := bne_iff_ne.2 h3
        clear h2
        go_enter Tryz.func67, Tryz.ntmps67
        go_wp2_with fail
        refine (HW.out _ _).mono ?_
        rintro e w1 ⟨rfl, hb1⟩
        rw [HE.out]
        have e0 := (hb1.cell (cell_lt d0)).trans d0
        have e1 := (hb1.cell (cell_lt d1)).trans d1
        have e2 := (hb1.cell (cell_lt d2)).trans d2
        have e3 := (hb1.cell (cell_lt d3)).trans d3
        have e4 := (hb1.cell (cell_lt d4)).trans d4
        have e5 := (hb1.cell (cell_lt d5)).trans d5
        have e6 := (hb1.cell (cell_lt d6)).trans d6
        have k0 := (hb1.cell (cell_lt g0)).trans g0
        have k1 := (hb1.cell (cell_lt g1)).trans g1
        have k2 := (hb1.cell (cell_lt g2)).trans g2
        have HB1 := Lib.hid ((HB0.out _ _).trans (hb1.mono (HB0.out _ _).size)); clear hb1 d0 d1 d2 d3 d4 d5 d6 g0 g1 g2
        go_wp2
        go_ret
        exact ⟨rfl, HB1.out⟩
    · have HE := Lib.hid (decide_eq_false h2)
      have HL : Hid (mayB ⟨xnm, xkd, xlo, xhi, xik, xia, xib⟩ ⟨xkd, ya, yb⟩ = false) := by show mayB _ _ = _; simp only [mayB, decide_eq_false h2]; simp
      rw [HL.out]
      clear h2
      go_enter Tryz.func67, Tryz.ntmps67
      go_wp2_with fail
      refine (HW.out _ _).mono ?_
      rintro e w1 ⟨rfl, hb1⟩
      rw [HE.out]
      have HB1 := Lib.hid ((HB0.out _ _).trans (hb1.mono (HB0.out _ _).size)); clear hb1 d0 d1 d2 d3 d4 d5 d6 g0 g1 g2
      go_wp2
      go_ret
      exact ⟨rfl, HB1.out⟩
  · have h1' := int_ne h1
    have HL : Hid (mayB ⟨xnm, xkd, xlo, xhi, xik, xia, xib⟩ ⟨yk, ya, yb⟩ = false) := by show mayB _ _ = _; simp only [mayB, decide_eq_false h1]; simp
    rw [HL.out]
    go_enter Tryz.func67, Tryz.ntmps67
    go_wp2
    go_ret
    exact ⟨rfl, HB0.out _ _⟩

theorem setCalled_any (x : VM) (X N : ByteArray) (g : Nat) (w : World) (hg : g < w.heap.size) (hN : w.cell? ⟨g, 1, none⟩ = some (.string N)) :
    Calls Tryz.prog 65 #[.agg #[.string X, .int .i64 x.kd, .int .i64 x.lo, .int .i64 x.hi, .int .i64 x.ik, .int .i64 x.ia, .int .i64 x.ib], .pointer (some ⟨g, 0, none⟩)] w fun e w' => e = .returned (.bool (decide (X.data.toList = N.data.toList))) ∧ Below w.heap.size w w' := by
  have HB : Hid (∀ W : World, ∀ o : Obj, Below W.heap.size W (W.alloc o)) := fun W o => (Below.refl _ _).alloc (Nat.le_refl _) o
  have hne0 : w.heap.size ≠ g := by omega
  by_cases he : X.data.toList = N.data.toList
  · obtain rfl := str_eq he
    rw [decide_eq_true he]
    clear he
    go_enter Tryz.func65, Tryz.ntmps65
    go_wp2
    go_ret
    exact ⟨rfl, HB.out _ _⟩
  · have hne := str_ne he
    have hne' := str_ne (Ne.symm he)
    rw [decide_eq_false he]
    clear he
    go_enter Tryz.func65, Tryz.ntmps65
    go_wp2
    go_ret
    exact ⟨rfl, HB.out _ _⟩

set_option maxHeartbeats 1000000 in
theorem setIndex_any (v : Value) (vs : List VM) (N : ByteArray) (g : Nat) (w : World) (hR : RdV w v vs) (hl : vs.length ≤ 4611686018427387904) (hg : g < w.heap.size) (hN : w.cell? ⟨g, 1, none⟩ = some (.string N)) :
    Calls Tryz.prog 64 #[v, .func (.func 65) #[] #[.pointer (some ⟨g, 0, none⟩)]] w fun e w' => e = .returned (.int .i64 (ixP (isV N.data.toList) vs 0)) ∧ Below w.heap.size w w' := by
  obtain ⟨A, c, rfl⟩ := hR.form
  have HR := Lib.hid hR; clear hR
  obtain ⟨n, hn⟩ : ∃ n, vs.length = n := ⟨_, rfl⟩
  have HN := Lib.hid hn
  rw [hn] at hl HR ⊢
  clear hn
  have HNM := Lib.hid hN; clear hN
  go_enter Tryz.func64, Tryz.ntmps64
  go_wp2
  go_loopw [4, 5, 8] (fun x4 x5 i wr => x4 = .int .i64 0 ∧ (x5 = .int .i64 0 ∨ True) ∧ ∃ k : Nat, k ≤ n ∧ i = .int .i64 k ∧ Hid (ixP (isV N.data.toList) (vs.drop k) k = ixP (isV N.data.toList) vs 0) ∧ Below w.heap.size w wr) (fun _ _ i _ => n - (intOf i).toNat)
  case atStart => exact ⟨rfl, Or.inr trivial, 0, by omega, rfl, rfl, Below.refl _ _⟩
  case round =>
    obtain ⟨rfl, _, k, hk, rfl, HI, hb⟩ := hrel
    have HBL := Lib.hid hb
    by_cases hkn : k < n
    · have HR' := HR.out.below hb
      have hst := ix_step (p := isV N.data.toList) (l := vs) (k := k) (by rw [HN.out]; exact hkn)
      rw [HI.out] at hst
      obtain ⟨b, o, rfl, _, hc0, hc1, hc2, hc3, hc4, hc5, hc6⟩ := HR'.at_ (k := k) (by rw [HN.out]; exact hkn)
      obtain ⟨X, hX, hXl⟩ := bstr_some (vs[k]'(by rw [HN.out]; exact hkn)).nm
      have hiv : isV N.data.toList (vs[k]'(by rw [HN.out]; exact hkn)) = decide (X.data.toList = N.data.toList) := by rw [hXl]; rfl
      rw [hiv] at hst
      rw [hX] at hc0
      generalize vs[k]'(by rw [HN.out]; exact hkn) = x at *
      clear hX hXl hiv
      have HC := Lib.hid (setCalled_any x X N g wr (by have := HBL.out.size; omega) ((hb.cell hg).trans HNM.out))
      clear hb HR'
      by_cases he : decide (X.data.toList = N.data.toList) = true
      · have hr : ixP (isV N.data.toList) vs 0 = k := by rw [hst, if_pos he]
        have HRR := Lib.hid hr
        have HE := Lib.hid he
        clear hst hr he HI
        go_wp2_with fail
        refine HC.out.mono ?_
        rintro e w1 ⟨rfl, hb1⟩
        rw [HE.out]
        have HB1 := Lib.hid (HBL.out.trans (hb1.mono HBL.out.size)); clear hb1
        go_wp2
        go_ret
        exact ⟨ret_int HRR.out.symm, HB1.out⟩
      · have hr : ixP (isV N.data.toList) (vs.drop (k + 1)) (k + 1) = ixP (isV N.data.toList) vs 0 := by rw [hst, if_neg he]
        have HRR := Lib.hid hr
        have HE := Lib.hid ((Bool.not_eq_true _).mp he)
        clear hst hr he HI
        go_wp2_with fail
        refine HC.out.mono ?_
        rintro e w1 ⟨rfl, hb1⟩
        rw [HE.out]
        have HB1 := Lib.hid (HBL.out.trans (hb1.mono HBL.out.size)); clear hb1
        go_wp2
        go_roundw
        case rel => exact ⟨rfl, Or.inr trivial, k + 1, by omega, by go_num, HRR.out, HB1.out⟩
        case measure => simp [intOf]; omega
    · have hr : ixP (isV N.data.toList) vs 0 = -1 := by rw [← HI.out, ix_end (by rw [HN.out]; exact hkn)]
      have HRR := Lib.hid hr
      clear hr HI
      go_wp2
      go_ret
      exact ⟨ret_int HRR.out.symm, HBL.out⟩
end Go.Proofs.YtjgfkmakfdepcaaGreatDoor
namespace Go.Proofs.YtjgfkmakfdepcaaGreatDoor
open Go.RowKit

section
variable {vs : List VM} {xs : List VA} {a : AM}
theorem set_no (h : ixP (isV a.nm) vs 0 = -1) : setP vs xs a = none := by
  have h' : atP vs a.nm = -1 := h
  unfold setP
  split
  · rw [if_neg (by omega)]
  · rfl
theorem set_err (he : (evP vs xs [] a.ex).2 ≠ 0) : setP vs xs a = none := by
  unfold setP
  split
  · rw [if_neg (fun hh => he hh.2.1)]
  · rfl
theorem set_if {i : Nat} (hi : i < vs.length) (h : ixP (isV a.nm) vs 0 = (i : Int)) (he : (evP vs xs [] a.ex).2 = 0) :
    setP vs xs a = if mayB vs[i] (evP vs xs [] a.ex).1 = true then some (xs.set i (evP vs xs [] a.ex).1) else none := by
  have h' : atP vs a.nm = (i : Int) := h
  have e : (atP vs a.nm).toNat = i := by rw [h']; rfl
  unfold setP
  rw [e, List.getElem?_eq_getElem hi]
  simp only [h', he]
  by_cases hm : mayB vs[i] (evP vs xs [] a.ex).1 = true
  · rw [if_pos ⟨by omega, trivial, hm⟩, if_pos hm]
  · rw [if_neg (fun hh => hm hh.2.2), if_neg hm]
end

set_option maxRecDepth 100000 in
set_option maxHeartbeats 8000000 in
theorem set_any (k : Int) (N : ByteArray) (ev vv xv : Value) (cs : List CM) (vs : List VM) (xs : List VA) (B : Nat) (w : World) (hR : RdI w ev cs) (hl : cs.length * 32 ≤ 140737488355328) (hV : RdV w vv vs) (hvl : vs.length * 64 ≤ 140737488355328)
    (hX : w.ownsRow B 54 3 xv xs.length (flatX xs)) (hxl : xs.length * 24 ≤ 140737488355328) (hi : ∀ x ∈ xs, inL x.a = true) :
    Calls Tryz.prog 36 #[.agg #[.int .i64 k, .string N, ev], vv, xv] w fun e w' => e = .returned (.bool (setP vs xs ⟨k, N.data.toList, cs⟩).isSome) ∧ w'.ownsRow B 54 3 xv xs.length (flatX ((setP vs xs ⟨k, N.data.toList, cs⟩).getD xs)) ∧ w.grownBy w' xv.ownBlock := by
  have hev := fun W (hb : Below w.heap.size w W) => evOf_any ev vv xv (.slice none 0 0) cs vs xs [] W (hR.below hb).rd (by omega) (hV.below hb) (Inn.of_own (own_below hX hb)) (Inn.nil _ _) (by omega) (by omega) (by simp) hi
  have hfin := ev_fin (vs := vs) (ss := []) hi cs
  obtain ⟨A, c, rfl⟩ := hR.slice
  obtain ⟨V, vc, rfl⟩ := hV.form
  obtain ⟨X0, xc, rfl⟩ := own_slice hX
  have HB0 : Hid (Below w.heap.size w (w.alloc (.cells #[.int .i64 k, .string N, .slice A cs.length c] 59))) := (Below.refl _ _).alloc (Nat.le_refl _) _
  have hix := setIndex_any (.slice V vs.length vc) vs N w.heap.size (w.alloc (.cells #[.int .i64 k, .string N, .slice A cs.length c] 59)) (hV.below HB0.out) (by omega) (by simp) (by simp)
  have d0 : (w.alloc (.cells #[.int .i64 k, .string N, .slice A cs.length c] 59)).cell? ⟨w.heap.size, 2, none⟩ = some (.slice A cs.length c) := by simp
  have fin0 : ∀ W, Below w.heap.size w W → W.ownsRow B 54 3 (.slice X0 xs.length xc) xs.length (flatX xs) ∧ w.grownBy W (Value.slice X0 xs.length xc).ownBlock := fun W hb => ⟨own_below hX hb, ⟨hb.os, hb.tape, hb.output, hb.size, fun i hi' _ => hb.block i hi'⟩⟩
  have FIN := Lib.hid fin0
  rcases ix_range (isV N.data.toList) vs with hat | ⟨hat0, hat1⟩
  · have hs : (setP vs xs ⟨k, N.data.toList, cs⟩) = none := set_no hat
    rw [hs]
    rw [hat] at hix
    have HIX := Lib.hid hix
    clear hix hev hfin hs hat hR hV hX fin0 hi d0
    go_enter Tryz.func36, Tryz.ntmps36
    go_wp2_with fail
    refine HIX.out.mono ?_
    rintro e w1 ⟨rfl, hb1⟩
    have HB1 := Lib.hid (HB0.out.trans (hb1.mono HB0.out.size)); clear hb1
    go_wp2
    go_ret
    exact ⟨rfl, FIN.out _ HB1.out⟩
  obtain ⟨i, hi'⟩ : ∃ i : Nat, ixP (isV N.data.toList) vs 0 = (i : Int) := ⟨(ixP (isV N.data.toList) vs 0).toNat, by omega⟩
  rw [hi'] at hix hat0 hat1
  have hil : i < vs.length := by omega
  have HIX := Lib.hid hix
  have hs1 := set_err (vs := vs) (xs := xs) (a := ⟨k, N.data.toList, cs⟩)
  have hs2 := set_if (xs := xs) (a := ⟨k, N.data.toList, cs⟩) hil hi'
  simp only at hs1 hs2
  obtain ⟨bv, ov, hV0, _, v0, v1, v2, v3, v4, v5, v6⟩ := hV.at_ (k := i) hil
  obtain ⟨X, hXb, _⟩ := bstr_some vs[i].nm
  rw [hXb] at v0
  subst hV0
  generalize hp : evP vs xs [] cs = p at *
  obtain ⟨⟨pk, pa, pb⟩, pe⟩ := p
  have HEV : Hid (∀ W, Below w.heap.size w W → Calls Tryz.prog 66 #[.slice A cs.length c, .slice (some ⟨bv, ov, none⟩) vs.length vc, .slice X0 xs.length xc, .slice none 0 0] W fun e w' => e = .returned (.tuple #[.agg #[.int .i64 pk, .int .i64 pa, .int .i64 pb], .int .i64 pe]) ∧ Below W.heap.size W w') := hev
  by_cases hpe : pe ≠ 0
  · rw [hs1 hpe]
    have hpe' : (pe != 0) = true := bne_iff_ne.2 hpe
    have hlt : ¬ ((i : Int) < 0) := by omega
    clear hs1 hs2 hev hfin hp hR hV hX fin0 hi hXb hix v0 v1 v2 v3 v4 v5 v6 hat0 hat1 hi'
    go_enter Tryz.func36, Tryz.ntmps36
    go_wp2_with fail
    refine HIX.out.mono ?_
    rintro e w1 ⟨rfl, hb1⟩
    have HB1 := Lib.hid (HB0.out.trans (hb1.mono HB0.out.size))
    have d1 := (hb1.cell (by simp)).trans d0
    clear hb1 d0
    go_wp2_with fail
    refine (HEV.out _ HB1.out).mono ?_
    rintro e w2 ⟨rfl, hb2⟩
    have HB5 : Hid (Below w.heap.size w (w2.alloc (.cells #[.int .i64 pk, .int .i64 pa, .int .i64 pb] 54))) := (HB1.out.trans (hb2.mono HB1.out.size)).alloc (HB1.out.trans (hb2.mono HB1.out.size)).size _
    clear hb2 d1
    go_wp2_with fail
    refine Oz.region_own' 38 [Ow.eqR (.int .i64 pe), Ow.eqR (.bool true), Ow.eqR (.bool true), Ow.eqR (undef), Ow.eqR (undef), Ow.eqR (undef), Ow.eqR (undef), Ow.eqR (undef), Ow.eqR (undef), Ow.eqR (undef), Ow.eqR (.bool true)] [false, false, false, false, false, false, false, false, false, false, false] [none, none, none, none, none, none, none, none, none, none, none] (by kernel_rfl) rfl (by kernel_rfl) ⟨Oz.keeps_eq _ _, Oz.keeps_eq _ _, Oz.keeps_eq _ _, Oz.keeps_eq _ _, Oz.keeps_eq _ _, Oz.keeps_eq _ _, Oz.keeps_eq _ _, Oz.keeps_eq _ _, Oz.keeps_eq _ _, Oz.keeps_eq _ _, Oz.keeps_eq _ _, trivial⟩ ?_
    apply Oz.walk_cons rfl
    · intro w1 hb hu hd ho K hK
      clear hu hd ho
      go_simp
      exact hK _ _ (Oz.good_same rfl rfl rfl)
    · intro v; simp only [Act.put, List.setIfInBounds_toArray, List.set_cons_succ, List.set_cons_zero]; exact rfl
    · intro v; exact (rfl : _ = ([v] : List Value))
    intro x23
    apply Oz.walk_cons rfl
    · intro w1 hb hu hd ho K hK
      have e23 : _ = x23 := Eq.symm (hd 0 (by kernel_rfl))
      subst e23
      clear hu hd ho
      go_simp
      exact hK _ _ (Oz.good_same rfl rfl rfl)
    · intro v; simp only [Act.put, List.setIfInBounds_toArray, List.set_cons_succ, List.set_cons_zero]; exact rfl
    · intro v; exact (rfl : _ = ([x23, v] : List Value))
    intro x24
    apply Oz.walk_cons rfl
    · intro w1 hb hu hd ho K hK
      have e24 : _ = x24 := Eq.symm (hd 1 (by kernel_rfl))
      subst e24
      clear hu hd ho
      go_simp
      exact hK _ _ (Oz.good_same rfl rfl rfl)
    · intro v; simp only [Act.put, List.setIfInBounds_toArray, List.set_cons_succ, List.set_cons_zero]; exact rfl
    · intro v; exact (rfl : _ = ([x23, x24, v] : List Value))
    intro x25
    apply Oz.walk_cons rfl
    · intro w1 hb hu hd ho K hK
      have e25 : _ = x25 := Eq.symm (hd 2 (by kernel_rfl))
      subst e25
      clear hu hd ho
      go_simp
      exact hK _ _ (Oz.good_same rfl rfl rfl)
    · intro v; simp only [Act.put, List.setIfInBounds_toArray, List.set_cons_succ, List.set_cons_zero]; exact rfl
    · intro v; exact (rfl : _ = ([x23, x24, x25, v] : List Value))
    intro x26
    apply Oz.walk_cons rfl
    · intro w1 hb hu hd ho K hK
      have e25 : _ = x25 := Eq.symm (hd 2 (by kernel_rfl))
      subst e25
      clear hu hd ho
      go_simp
      exact hK _ _ (Oz.good_same rfl rfl rfl)
    · intro v; simp only [Act.put, List.setIfInBounds_toArray, List.set_cons_succ, List.set_cons_zero]; exact rfl
    · intro v; exact (rfl : _ = ([x23, x24, x25, x26, v] : List Value))
    intro x27
    apply Oz.walk_cons rfl
    · intro w1 hb hu hd ho K hK
      have e26 : _ = x26 := Eq.symm (hd 3 (by kernel_rfl))
      subst e26
      have e27 : _ = x27 := Eq.symm (hd 4 (by kernel_rfl))
      subst e27
      have e25 : _ = x25 := Eq.symm (hd 2 (by kernel_rfl))
      subst e25
      clear hu hd ho
      go_simp
      exact hK _ _ (Oz.good_same rfl rfl rfl)
    · intro v; simp only [Act.put, List.setIfInBounds_toArray, List.set_cons_succ, List.set_cons_zero]; exact rfl
    · intro v; exact (rfl : _ = ([x23, x24, x25, x26, x27, v] : List Value))
    intro x28
    apply Oz.walk_cons rfl
    · intro w1 hb hu hd ho K hK
      have e28 : _ = x28 := Eq.symm (hd 5 (by kernel_rfl))
      subst e28
      have e25 : _ = x25 := Eq.symm (hd 2 (by kernel_rfl))
      subst e25
      clear hu hd ho
      go_simp
      exact hK _ _ (Oz.good_same rfl rfl rfl)
    · intro v; simp only [Act.put, List.setIfInBounds_toArray, List.set_cons_succ, List.set_cons_zero]; exact rfl
    · intro v; exact (rfl : _ = ([x23, x24, x25, x26, x27, x28, v] : List Value))
    intro x29
    apply Oz.walk_cons rfl
    · intro w1 hb hu hd ho K hK
      have e25 : _ = x25 := Eq.symm (hd 2 (by kernel_rfl))
      subst e25
      clear hu hd ho
      go_simp
      exact hK _ _ (Oz.good_same rfl rfl rfl)
    · intro v; simp only [Act.put, List.setIfInBounds_toArray, List.set_cons_succ, List.set_cons_zero]; exact rfl
    · intro v; exact (rfl : _ = ([x23, x24, x25, x26, x27, x28, x29, v] : List Value))
    intro x30
    apply Oz.walk_cons rfl
    · intro w1 hb hu hd ho K hK
      have e29 : _ = x29 := Eq.symm (hd 6 (by kernel_rfl))
      subst e29
      have e30 : _ = x30 := Eq.symm (hd 7 (by kernel_rfl))
      subst e30
      have e25 : _ = x25 := Eq.symm (hd 2 (by kernel_rfl))
      subst e25
      clear hu hd ho
      go_simp
      exact hK _ _ (Oz.good_same rfl rfl rfl)
    · intro v; simp only [Act.put, List.setIfInBounds_toArray, List.set_cons_succ, List.set_cons_zero]; exact rfl
    · intro v; exact (rfl : _ = ([x23, x24, x25, x26, x27, x28, x29, x30, v] : List Value))
    intro x31
    apply Oz.walk_cons rfl
    · intro w1 hb hu hd ho K hK
      have e31 : _ = x31 := Eq.symm (hd 8 (by kernel_rfl))
      subst e31
      have e25 : _ = x25 := Eq.symm (hd 2 (by kernel_rfl))
      subst e25
      clear hu hd ho
      go_simp
      exact hK _ _ (Oz.good_same rfl rfl rfl)
    · intro v; simp only [Act.put, List.setIfInBounds_toArray, List.set_cons_succ, List.set_cons_zero]; exact rfl
    · intro v; exact (rfl : _ = ([x23, x24, x25, x26, x27, x28, x29, x30, x31, v] : List Value))
    intro x32
    apply Oz.walk_cons rfl
    · intro w1 hb hu hd ho K hK
      have e25 : _ = x25 := Eq.symm (hd 2 (by kernel_rfl))
      subst e25
      have e32 : _ = x32 := Eq.symm (hd 9 (by kernel_rfl))
      subst e32
      clear hu hd ho
      go_simp
      exact hK _ _ (Oz.good_same rfl rfl rfl)
    · intro v; simp only [Act.put, List.setIfInBounds_toArray, List.set_cons_succ, List.set_cons_zero]; exact rfl
    · intro v; exact (rfl : _ = ([x23, x24, x25, x26, x27, x28, x29, x30, x31, x32, v] : List Value))
    intro x33
    refine Oz.walk_nil rfl (fun w1 hb hu hd => ?_)
    have e23 : _ = x23 := Eq.symm (hd 0 (by kernel_rfl))
    subst e23
    have e24 : _ = x24 := Eq.symm (hd 1 (by kernel_rfl))
    subst e24
    have e25 : _ = x25 := Eq.symm (hd 2 (by kernel_rfl))
    subst e25
    have e26 : _ = x26 := Eq.symm (hd 3 (by kernel_rfl))
    subst e26
    have e27 : _ = x27 := Eq.symm (hd 4 (by kernel_rfl))
    subst e27
    have e28 : _ = x28 := Eq.symm (hd 5 (by kernel_rfl))
    subst e28
    have e29 : _ = x29 := Eq.symm (hd 6 (by kernel_rfl))
    subst e29
    have e30 : _ = x30 := Eq.symm (hd 7 (by kernel_rfl))
    subst e30
    have e31 : _ = x31 := Eq.symm (hd 8 (by kernel_rfl))
    subst e31
    have e32 : _ = x32 := Eq.symm (hd 9 (by kernel_rfl))
    subst e32
    have e33 : _ = x33 := Eq.symm (hd 10 (by kernel_rfl))
    subst e33
    clear hd hu
    have HB6 := Lib.hid (HB5.out.drew.trans (hb.mono HB5.out.size))
    clear hb
    go_simp
    go_wp2
    go_ret
    exact ⟨rfl, FIN.out _ HB6.out⟩
  obtain rfl : pe = 0 := Decidable.not_not.1 hpe
  have hx1 : xs.length = vs.length := hfin.2 rfl
  have hs3 := hs2 rfl
  simp only at hs3
  have hMH := fun W => mayHold_any vs[i] X ⟨pk, pa, pb⟩ W
  cases hm : mayB vs[i] ⟨pk, pa, pb⟩ with
  | false =>
    rw [hm] at hs3 hMH
    rw [if_neg (by decide)] at hs3
    rw [hs3]
    have HMH : Hid (∀ W, Calls Tryz.prog 67 #[.agg #[.string X, .int .i64 vs[i].kd, .int .i64 vs[i].lo, .int .i64 vs[i].hi, .int .i64 vs[i].ik, .int .i64 vs[i].ia, .int .i64 vs[i].ib], .agg #[.int .i64 pk, .int .i64 pa, .int .i64 pb]] W fun e w' => e = .returned (.bool false) ∧ Below W.heap.size W w') := hMH
    have hlt : ¬ ((i : Int) < 0) := by omega
    clear hs1 hs2 hs3 hev hfin hp hR hV hX fin0 hi hXb hix hat0 hi' hm hMH hpe hx1
    go_enter Tryz.func36, Tryz.ntmps36
    go_wp2_with fail
    refine HIX.out.mono ?_
    rintro e w1 ⟨rfl, hb1⟩
    have HB1 := Lib.hid (HB0.out.trans (hb1.mono HB0.out.size))
    have d1 := (hb1.cell (by simp)).trans d0
    clear hb1 d0
    go_wp2_with fail
    refine (HEV.out _ HB1.out).mono ?_
    rintro e w2 ⟨rfl, hb2⟩
    have HB2 := Lib.hid (HB1.out.trans (hb2.mono HB1.out.size))
    clear hb2 d1
    go_wp2_with fail
    generalize hw5 : w2.alloc (.cells #[.int .i64 pk, .int .i64 pa, .int .i64 pb] 54) = w5
    have HB5 : Hid (Below w.heap.size w w5) := by rw [← hw5]; exact HB2.out.alloc HB2.out.size _
    have hup5 := fun (p : Addr) (u : Value) (h : w.cell? p = some u) => (HB5.out.cell (cell_lt h)).trans h
    replace v0 := hup5 _ _ v0
    replace v1 := hup5 _ _ v1
    replace v2 := hup5 _ _ v2
    replace v3 := hup5 _ _ v3
    replace v4 := hup5 _ _ v4
    replace v5 := hup5 _ _ v5
    replace v6 := hup5 _ _ v6
    clear hup5
    have d0 : w5.cell? ⟨w2.heap.size, 0, none⟩ = some (.int .i64 pk) := by rw [← hw5]; simp
    have d1 : w5.cell? ⟨w2.heap.size, 1, none⟩ = some (.int .i64 pa) := by rw [← hw5]; simp
    have d2 : w5.cell? ⟨w2.heap.size, 2, none⟩ = some (.int .i64 pb) := by rw [← hw5]; simp
    clear hw5
    refine Oz.region_own' 38 [Ow.eqR (.int .i64 0), Ow.eqR (.bool false), Ow.eqR (.bool false), Ow.eqR (.slice (some ⟨bv, ov, none⟩) vs.length vc), Ow.eqR (.int .i64 (i : Int)), Ow.eqR (.pointer (some ⟨bv, ov + i * 7, none⟩)), Ow.eqR (.agg #[.string X, .int .i64 vs[i].kd, .int .i64 vs[i].lo, .int .i64 vs[i].hi, .int .i64 vs[i].ik, .int .i64 vs[i].ia, .int .i64 vs[i].ib]), Ow.eqR (.agg #[.int .i64 pk, .int .i64 pa, .int .i64 pb]), Ow.eqR (.bool false), Ow.eqR (.bool true), Ow.eqR (.bool true)] [false, false, false, false, false, false, false, false, false, false, false] [none, none, none, none, none, none, none, none, none, none, none] (by kernel_rfl) rfl (by kernel_rfl) ⟨Oz.keeps_eq _ _, Oz.keeps_eq _ _, Oz.keeps_eq _ _, Oz.keeps_eq _ _, Oz.keeps_eq _ _, Oz.keeps_eq _ _, Oz.keeps_eq _ _, Oz.keeps_eq _ _, Oz.keeps_eq _ _, Oz.keeps_eq _ _, Oz.keeps_eq _ _, trivial⟩ ?_
    apply Oz.walk_cons rfl
    · intro w1 hb hu hd ho K hK
      clear hu hd ho
      go_simp
      exact hK _ _ (Oz.good_same rfl rfl rfl)
    · intro v; simp only [Act.put, List.setIfInBounds_toArray, List.set_cons_succ, List.set_cons_zero]; exact rfl
    · intro v; exact (rfl : _ = ([v] : List Value))
    intro x23
    apply Oz.walk_cons rfl
    · intro w1 hb hu hd ho K hK
      have e23 : _ = x23 := Eq.symm (hd 0 (by kernel_rfl))
      subst e23
      clear hu hd ho
      go_simp
      exact hK _ _ (Oz.good_same rfl rfl rfl)
    · intro v; simp only [Act.put, List.setIfInBounds_toArray, List.set_cons_succ, List.set_cons_zero]; exact rfl
    · intro v; exact (rfl : _ = ([x23, v] : List Value))
    intro x24
    apply Oz.walk_cons rfl
    · intro w1 hb hu hd ho K hK
      have e24 : _ = x24 := Eq.symm (hd 1 (by kernel_rfl))
      subst e24
      clear hu hd ho
      go_simp
      exact hK _ _ (Oz.good_same rfl rfl rfl)
    · intro v; simp only [Act.put, List.setIfInBounds_toArray, List.set_cons_succ, List.set_cons_zero]; exact rfl
    · intro v; exact (rfl : _ = ([x23, x24, v] : List Value))
    intro x25
    apply Oz.walk_cons rfl
    · intro w1 hb hu hd ho K hK
      have e25 : _ = x25 := Eq.symm (hd 2 (by kernel_rfl))
      subst e25
      clear hu hd ho
      go_simp
      exact hK _ _ (Oz.good_same rfl rfl rfl)
    · intro v; simp only [Act.put, List.setIfInBounds_toArray, List.set_cons_succ, List.set_cons_zero]; exact rfl
    · intro v; exact (rfl : _ = ([x23, x24, x25, v] : List Value))
    intro x26
    apply Oz.walk_cons rfl
    · intro w1 hb hu hd ho K hK
      have e25 : _ = x25 := Eq.symm (hd 2 (by kernel_rfl))
      subst e25
      clear hu hd ho
      go_simp
      exact hK _ _ (Oz.good_same rfl rfl rfl)
    · intro v; simp only [Act.put, List.setIfInBounds_toArray, List.set_cons_succ, List.set_cons_zero]; exact rfl
    · intro v; exact (rfl : _ = ([x23, x24, x25, x26, v] : List Value))
    intro x27
    apply Oz.walk_cons rfl
    · intro w1 hb hu hd ho K hK
      have e26 : _ = x26 := Eq.symm (hd 3 (by kernel_rfl))
      subst e26
      have e27 : _ = x27 := Eq.symm (hd 4 (by kernel_rfl))
      subst e27
      have e25 : _ = x25 := Eq.symm (hd 2 (by kernel_rfl))
      subst e25
      clear hu hd ho
      go_simp
      exact hK _ _ (Oz.good_same rfl rfl rfl)
    · intro v; simp only [Act.put, List.setIfInBounds_toArray, List.set_cons_succ, List.set_cons_zero]; exact rfl
    · intro v; exact (rfl : _ = ([x23, x24, x25, x26, x27, v] : List Value))
    intro x28
    apply Oz.walk_cons rfl
    · intro w1 hb hu hd ho K hK
      have e28 : _ = x28 := Eq.symm (hd 5 (by kernel_rfl))
      subst e28
      have e25 : _ = x25 := Eq.symm (hd 2 (by kernel_rfl))
      subst e25
      clear hu hd ho
      have c_v0 := (hb.cell (cell_lt v0)).trans v0
      have c_v1 := (hb.cell (cell_lt v1)).trans v1
      have c_v2 := (hb.cell (cell_lt v2)).trans v2
      have c_v3 := (hb.cell (cell_lt v3)).trans v3
      have c_v4 := (hb.cell (cell_lt v4)).trans v4
      have c_v5 := (hb.cell (cell_lt v5)).trans v5
      have c_v6 := (hb.cell (cell_lt v6)).trans v6
      go_simp
      exact hK _ _ (Oz.good_same rfl rfl rfl)
    · intro v; simp only [Act.put, List.setIfInBounds_toArray, List.set_cons_succ, List.set_cons_zero]; exact rfl
    · intro v; exact (rfl : _ = ([x23, x24, x25, x26, x27, x28, v] : List Value))
    intro x29
    apply Oz.walk_cons rfl
    · intro w1 hb hu hd ho K hK
      have e25 : _ = x25 := Eq.symm (hd 2 (by kernel_rfl))
      subst e25
      clear hu hd ho
      have c_d0 := (hb.cell (cell_lt d0)).trans d0
      have c_d1 := (hb.cell (cell_lt d1)).trans d1
      have c_d2 := (hb.cell (cell_lt d2)).trans d2
      go_simp
      exact hK _ _ (Oz.good_same rfl rfl rfl)
    · intro v; simp only [Act.put, List.setIfInBounds_toArray, List.set_cons_succ, List.set_cons_zero]; exact rfl
    · intro v; exact (rfl : _ = ([x23, x24, x25, x26, x27, x28, x29, v] : List Value))
    intro x30
    apply Oz.walk_cons rfl
    · intro w1 hb hu hd ho K hK
      have e29 : _ = x29 := Eq.symm (hd 6 (by kernel_rfl))
      subst e29
      have e30 : _ = x30 := Eq.symm (hd 7 (by kernel_rfl))
      subst e30
      have e25 : _ = x25 := Eq.symm (hd 2 (by kernel_rfl))
      subst e25
      clear hu hd ho
      go_simp
      refine (HMH.out w1).mono ?_
      rintro e w2 ⟨rfl, hb2⟩
      go_simp
      exact hK _ _ (Oz.good_below rfl rfl hb2 rfl)
    · intro v; simp only [Act.put, List.setIfInBounds_toArray, List.set_cons_succ, List.set_cons_zero]; exact rfl
    · intro v; exact (rfl : _ = ([x23, x24, x25, x26, x27, x28, x29, x30, v] : List Value))
    intro x31
    apply Oz.walk_cons rfl
    · intro w1 hb hu hd ho K hK
      have e31 : _ = x31 := Eq.symm (hd 8 (by kernel_rfl))
      subst e31
      have e25 : _ = x25 := Eq.symm (hd 2 (by kernel_rfl))
      subst e25
      clear hu hd ho
      go_simp
      exact hK _ _ (Oz.good_same rfl rfl rfl)
    · intro v; simp only [Act.put, List.setIfInBounds_toArray, List.set_cons_succ, List.set_cons_zero]; exact rfl
    · intro v; exact (rfl : _ = ([x23, x24, x25, x26, x27, x28, x29, x30, x31, v] : List Value))
    intro x32
    apply Oz.walk_cons rfl
    · intro w1 hb hu hd ho K hK
      have e25 : _ = x25 := Eq.symm (hd 2 (by kernel_rfl))
      subst e25
      have e32 : _ = x32 := Eq.symm (hd 9 (by kernel_rfl))
      subst e32
      clear hu hd ho
      go_simp
      exact hK _ _ (Oz.good_same rfl rfl rfl)
    · intro v; simp only [Act.put, List.setIfInBounds_toArray, List.set_cons_succ, List.set_cons_zero]; exact rfl
    · intro v; exact (rfl : _ = ([x23, x24, x25, x26, x27, x28, x29, x30, x31, x32, v] : List Value))
    intro x33
    refine Oz.walk_nil rfl (fun w1 hb hu hd => ?_)
    have e23 : _ = x23 := Eq.symm (hd 0 (by kernel_rfl))
    subst e23
    have e24 : _ = x24 := Eq.symm (hd 1 (by kernel_rfl))
    subst e24
    have e25 : _ = x25 := Eq.symm (hd 2 (by kernel_rfl))
    subst e25
    have e26 : _ = x26 := Eq.symm (hd 3 (by kernel_rfl))
    subst e26
    have e27 : _ = x27 := Eq.symm (hd 4 (by kernel_rfl))
    subst e27
    have e28 : _ = x28 := Eq.symm (hd 5 (by kernel_rfl))
    subst e28
    have e29 : _ = x29 := Eq.symm (hd 6 (by kernel_rfl))
    subst e29
    have e30 : _ = x30 := Eq.symm (hd 7 (by kernel_rfl))
    subst e30
    have e31 : _ = x31 := Eq.symm (hd 8 (by kernel_rfl))
    subst e31
    have e32 : _ = x32 := Eq.symm (hd 9 (by kernel_rfl))
    subst e32
    have e33 : _ = x33 := Eq.symm (hd 10 (by kernel_rfl))
    subst e33
    clear hd hu
    have HB6 := Lib.hid (HB5.out.drew.trans (hb.mono HB5.out.size))
    have q0 := (hb.cell (cell_lt d0)).trans d0
    have q1 := (hb.cell (cell_lt d1)).trans d1
    have q2 := (hb.cell (cell_lt d2)).trans d2
    clear hb d0 d1 d2
    go_simp
    go_wp2
    go_ret
    exact ⟨rfl, FIN.out _ HB6.out⟩
  | true =>
    rw [hm] at hs3 hMH
    rw [if_pos rfl] at hs3
    rw [hs3]
    have HMH : Hid (∀ W, Calls Tryz.prog 67 #[.agg #[.string X, .int .i64 vs[i].kd, .int .i64 vs[i].lo, .int .i64 vs[i].hi, .int .i64 vs[i].ik, .int .i64 vs[i].ia, .int .i64 vs[i].ib], .agg #[.int .i64 pk, .int .i64 pa, .int .i64 pb]] W fun e w' => e = .returned (.bool true) ∧ Below W.heap.size W w') := hMH
    obtain ⟨g, hg0, hlt0⟩ : ∃ g, X0 = some ⟨g, 0, none⟩ ∧ g < w.heap.size := by
      rcases hX.2 with ⟨h1, h2⟩ | ⟨g, cap, cur, h1, h2, h3, _⟩
      · omega
      · simp only [Value.slice.injEq] at h1
        exact ⟨g, h1.1, (Array.getElem?_eq_some_iff.1 h3).1⟩
    subst hg0
    have HX := Lib.hid hX
    have hlt : ¬ ((i : Int) < 0) := by omega
    have hix2 : i < xs.length := by omega
    have hix3 : (i : Int) < xs.length := by omega
    have hset : Hid (∀ W : World, W.ownsRow B 54 3 (.slice (some ⟨g, 0, none⟩) xs.length xc) xs.length (flatX xs) → (((W.setCell ⟨g, i * 3, none⟩ (.int .i64 pk)).setCell ⟨g, i * 3 + 1, none⟩ (.int .i64 pa)).setCell ⟨g, i * 3 + 2, none⟩ (.int .i64 pb)).ownsRow B 54 3 (.slice (some ⟨g, 0, none⟩) xs.length xc) xs.length (flatX (xs.set i ⟨pk, pa, pb⟩))) := fun W h => own_setX h i hix2 ⟨pk, pa, pb⟩
    have hat3 : Hid (∀ W : World, W.ownsRow B 54 3 (.slice (some ⟨g, 0, none⟩) xs.length xc) xs.length (flatX xs) → ∃ a b c, W.cell? ⟨g, i * 3, none⟩ = some (.int .i64 a) ∧ W.cell? ⟨g, i * 3 + 1, none⟩ = some (.int .i64 b) ∧ W.cell? ⟨g, i * 3 + 2, none⟩ = some (.int .i64 c)) := fun W h => ⟨_, _, _, (h.cellAt (i * 3) (by omega)).trans ((flatX_at hix2 (j := 0) (by omega)).trans rfl), (h.cellAt (i * 3 + 1) (by omega)).trans ((flatX_at hix2 (j := 1) (by omega)).trans rfl), (h.cellAt (i * 3 + 2) (by omega)).trans ((flatX_at hix2 (j := 2) (by omega)).trans rfl)⟩
    have HOWN : Hid (∀ W, Below w.heap.size w W → W.ownsRow B 54 3 (.slice (some ⟨g, 0, none⟩) xs.length xc) xs.length (flatX xs)) := fun W hb => own_below hX hb
    have HGR : Hid (∀ W, Below w.heap.size w W → w.grownBy W (some g)) := fun W hb => ⟨hb.os, hb.tape, hb.output, hb.size, fun i hi' _ => hb.block i hi'⟩
    clear hs1 hs2 hs3 hev hfin hp hR hV hX fin0 FIN hi hXb hix hat0 hi' hm hMH hpe hx1 hix2
    go_enter Tryz.func36, Tryz.ntmps36
    go_wp2_with fail
    refine HIX.out.mono ?_
    rintro e w1 ⟨rfl, hb1⟩
    have HB1 := Lib.hid (HB0.out.trans (hb1.mono HB0.out.size))
    have d1 := (hb1.cell (by simp)).trans d0
    clear hb1 d0
    go_wp2_with fail
    refine (HEV.out _ HB1.out).mono ?_
    rintro e w2 ⟨rfl, hb2⟩
    have HB2 := Lib.hid (HB1.out.trans (hb2.mono HB1.out.size))
    clear hb2 d1
    go_wp2_with fail
    generalize hw5 : w2.alloc (.cells #[.int .i64 pk, .int .i64 pa, .int .i64 pb] 54) = w5
    have HB5 : Hid (Below w.heap.size w w5) := by rw [← hw5]; exact HB2.out.alloc HB2.out.size _
    have hup5 := fun (p : Addr) (u : Value) (h : w.cell? p = some u) => (HB5.out.cell (cell_lt h)).trans h
    replace v0 := hup5 _ _ v0
    replace v1 := hup5 _ _ v1
    replace v2 := hup5 _ _ v2
    replace v3 := hup5 _ _ v3
    replace v4 := hup5 _ _ v4
    replace v5 := hup5 _ _ v5
    replace v6 := hup5 _ _ v6
    clear hup5
    have d0 : w5.cell? ⟨w2.heap.size, 0, none⟩ = some (.int .i64 pk) := by rw [← hw5]; simp
    have d1 : w5.cell? ⟨w2.heap.size, 1, none⟩ = some (.int .i64 pa) := by rw [← hw5]; simp
    have d2 : w5.cell? ⟨w2.heap.size, 2, none⟩ = some (.int .i64 pb) := by rw [← hw5]; simp
    clear hw5
    refine Oz.region_own' 38 [Ow.eqR (.int .i64 0), Ow.eqR (.bool false), Ow.eqR (.bool false), Ow.eqR (.slice (some ⟨bv, ov, none⟩) vs.length vc), Ow.eqR (.int .i64 (i : Int)), Ow.eqR (.pointer (some ⟨bv, ov + i * 7, none⟩)), Ow.eqR (.agg #[.string X, .int .i64 vs[i].kd, .int .i64 vs[i].lo, .int .i64 vs[i].hi, .int .i64 vs[i].ik, .int .i64 vs[i].ia, .int .i64 vs[i].ib]), Ow.eqR (.agg #[.int .i64 pk, .int .i64 pa, .int .i64 pb]), Ow.eqR (.bool true), Ow.eqR (.bool false), Ow.eqR (.bool false)] [false, false, false, false, false, false, false, false, false, false, false] [none, none, none, none, none, none, none, none, none, none, none] (by kernel_rfl) rfl (by kernel_rfl) ⟨Oz.keeps_eq _ _, Oz.keeps_eq _ _, Oz.keeps_eq _ _, Oz.keeps_eq _ _, Oz.keeps_eq _ _, Oz.keeps_eq _ _, Oz.keeps_eq _ _, Oz.keeps_eq _ _, Oz.keeps_eq _ _, Oz.keeps_eq _ _, Oz.keeps_eq _ _, trivial⟩ ?_
    apply Oz.walk_cons rfl
    · intro w1 hb hu hd ho K hK
      clear hu hd ho
      go_simp
      exact hK _ _ (Oz.good_same rfl rfl rfl)
    · intro v; simp only [Act.put, List.setIfInBounds_toArray, List.set_cons_succ, List.set_cons_zero]; exact rfl
    · intro v; exact (rfl : _ = ([v] : List Value))
    intro x23
    apply Oz.walk_cons rfl
    · intro w1 hb hu hd ho K hK
      have e23 : _ = x23 := Eq.symm (hd 0 (by kernel_rfl))
      subst e23
      clear hu hd ho
      go_simp
      exact hK _ _ (Oz.good_same rfl rfl rfl)
    · intro v; simp only [Act.put, List.setIfInBounds_toArray, List.set_cons_succ, List.set_cons_zero]; exact rfl
    · intro v; exact (rfl : _ = ([x23, v] : List Value))
    intro x24
    apply Oz.walk_cons rfl
    · intro w1 hb hu hd ho K hK
      have e24 : _ = x24 := Eq.symm (hd 1 (by kernel_rfl))
      subst e24
      clear hu hd ho
      go_simp
      exact hK _ _ (Oz.good_same rfl rfl rfl)
    · intro v; simp only [Act.put, List.setIfInBounds_toArray, List.set_cons_succ, List.set_cons_zero]; exact rfl
    · intro v; exact (rfl : _ = ([x23, x24, v] : List Value))
    intro x25
    apply Oz.walk_cons rfl
    · intro w1 hb hu hd ho K hK
      have e25 : _ = x25 := Eq.symm (hd 2 (by kernel_rfl))
      subst e25
      clear hu hd ho
      go_simp
      exact hK _ _ (Oz.good_same rfl rfl rfl)
    · intro v; simp only [Act.put, List.setIfInBounds_toArray, List.set_cons_succ, List.set_cons_zero]; exact rfl
    · intro v; exact (rfl : _ = ([x23, x24, x25, v] : List Value))
    intro x26
    apply Oz.walk_cons rfl
    · intro w1 hb hu hd ho K hK
      have e25 : _ = x25 := Eq.symm (hd 2 (by kernel_rfl))
      subst e25
      clear hu hd ho
      go_simp
      exact hK _ _ (Oz.good_same rfl rfl rfl)
    · intro v; simp only [Act.put, List.setIfInBounds_toArray, List.set_cons_succ, List.set_cons_zero]; exact rfl
    · intro v; exact (rfl : _ = ([x23, x24, x25, x26, v] : List Value))
    intro x27
    apply Oz.walk_cons rfl
    · intro w1 hb hu hd ho K hK
      have e26 : _ = x26 := Eq.symm (hd 3 (by kernel_rfl))
      subst e26
      have e27 : _ = x27 := Eq.symm (hd 4 (by kernel_rfl))
      subst e27
      have e25 : _ = x25 := Eq.symm (hd 2 (by kernel_rfl))
      subst e25
      clear hu hd ho
      go_simp
      exact hK _ _ (Oz.good_same rfl rfl rfl)
    · intro v; simp only [Act.put, List.setIfInBounds_toArray, List.set_cons_succ, List.set_cons_zero]; exact rfl
    · intro v; exact (rfl : _ = ([x23, x24, x25, x26, x27, v] : List Value))
    intro x28
    apply Oz.walk_cons rfl
    · intro w1 hb hu hd ho K hK
      have e28 : _ = x28 := Eq.symm (hd 5 (by kernel_rfl))
      subst e28
      have e25 : _ = x25 := Eq.symm (hd 2 (by kernel_rfl))
      subst e25
      clear hu hd ho
      have c_v0 := (hb.cell (cell_lt v0)).trans v0
      have c_v1 := (hb.cell (cell_lt v1)).trans v1
      have c_v2 := (hb.cell (cell_lt v2)).trans v2
      have c_v3 := (hb.cell (cell_lt v3)).trans v3
      have c_v4 := (hb.cell (cell_lt v4)).trans v4
      have c_v5 := (hb.cell (cell_lt v5)).trans v5
      have c_v6 := (hb.cell (cell_lt v6)).trans v6
      go_simp
      exact hK _ _ (Oz.good_same rfl rfl rfl)
    · intro v; simp only [Act.put, List.setIfInBounds_toArray, List.set_cons_succ, List.set_cons_zero]; exact rfl
    · intro v; exact (rfl : _ = ([x23, x24, x25, x26, x27, x28, v] : List Value))
    intro x29
    apply Oz.walk_cons rfl
    · intro w1 hb hu hd ho K hK
      have e25 : _ = x25 := Eq.symm (hd 2 (by kernel_rfl))
      subst e25
      clear hu hd ho
      have c_d0 := (hb.cell (cell_lt d0)).trans d0
      have c_d1 := (hb.cell (cell_lt d1)).trans d1
      have c_d2 := (hb.cell (cell_lt d2)).trans d2
      go_simp
      exact hK _ _ (Oz.good_same rfl rfl rfl)
    · intro v; simp only [Act.put, List.setIfInBounds_toArray, List.set_cons_succ, List.set_cons_zero]; exact rfl
    · intro v; exact (rfl : _ = ([x23, x24, x25, x26, x27, x28, x29, v] : List Value))
    intro x30
    apply Oz.walk_cons rfl
    · intro w1 hb hu hd ho K hK
      have e29 : _ = x29 := Eq.symm (hd 6 (by kernel_rfl))
      subst e29
      have e30 : _ = x30 := Eq.symm (hd 7 (by kernel_rfl))
      subst e30
      have e25 : _ = x25 := Eq.symm (hd 2 (by kernel_rfl))
      subst e25
      clear hu hd ho
      go_simp
      refine (HMH.out w1).mono ?_
      rintro e w2 ⟨rfl, hb2⟩
      go_simp
      exact hK _ _ (Oz.good_below rfl rfl hb2 rfl)
    · intro v; simp only [Act.put, List.setIfInBounds_toArray, List.set_cons_succ, List.set_cons_zero]; exact rfl
    · intro v; exact (rfl : _ = ([x23, x24, x25, x26, x27, x28, x29, x30, v] : List Value))
    intro x31
    apply Oz.walk_cons rfl
    · intro w1 hb hu hd ho K hK
      have e31 : _ = x31 := Eq.symm (hd 8 (by kernel_rfl))
      subst e31
      have e25 : _ = x25 := Eq.symm (hd 2 (by kernel_rfl))
      subst e25
      clear hu hd ho
      go_simp
      exact hK _ _ (Oz.good_same rfl rfl rfl)
    · intro v; simp only [Act.put, List.setIfInBounds_toArray, List.set_cons_succ, List.set_cons_zero]; exact rfl
    · intro v; exact (rfl : _ = ([x23, x24, x25, x26, x27, x28, x29, x30, x31, v] : List Value))
    intro x32
    apply Oz.walk_cons rfl
    · intro w1 hb hu hd ho K hK
      have e25 : _ = x25 := Eq.symm (hd 2 (by kernel_rfl))
      subst e25
      have e32 : _ = x32 := Eq.symm (hd 9 (by kernel_rfl))
      subst e32
      clear hu hd ho
      go_simp
      exact hK _ _ (Oz.good_same rfl rfl rfl)
    · intro v; simp only [Act.put, List.setIfInBounds_toArray, List.set_cons_succ, List.set_cons_zero]; exact rfl
    · intro v; exact (rfl : _ = ([x23, x24, x25, x26, x27, x28, x29, x30, x31, x32, v] : List Value))
    intro x33
    refine Oz.walk_nil rfl (fun w1 hb hu hd => ?_)
    have e23 : _ = x23 := Eq.symm (hd 0 (by kernel_rfl))
    subst e23
    have e24 : _ = x24 := Eq.symm (hd 1 (by kernel_rfl))
    subst e24
    have e25 : _ = x25 := Eq.symm (hd 2 (by kernel_rfl))
    subst e25
    have e26 : _ = x26 := Eq.symm (hd 3 (by kernel_rfl))
    subst e26
    have e27 : _ = x27 := Eq.symm (hd 4 (by kernel_rfl))
    subst e27
    have e28 : _ = x28 := Eq.symm (hd 5 (by kernel_rfl))
    subst e28
    have e29 : _ = x29 := Eq.symm (hd 6 (by kernel_rfl))
    subst e29
    have e30 : _ = x30 := Eq.symm (hd 7 (by kernel_rfl))
    subst e30
    have e31 : _ = x31 := Eq.symm (hd 8 (by kernel_rfl))
    subst e31
    have e32 : _ = x32 := Eq.symm (hd 9 (by kernel_rfl))
    subst e32
    have e33 : _ = x33 := Eq.symm (hd 10 (by kernel_rfl))
    subst e33
    clear hd hu
    have HB6 := Lib.hid (HB5.out.drew.trans (hb.mono HB5.out.size))
    have q0 := (hb.cell (cell_lt d0)).trans d0
    have q1 := (hb.cell (cell_lt d1)).trans d1
    have q2 := (hb.cell (cell_lt d2)).trans d2
    clear hb d0 d1 d2
    go_simp
    obtain ⟨w6, hw6⟩ : ∃ W, W = w1 := ⟨_, rfl⟩
    subst hw6
    have HO := Lib.hid (HOWN.out _ HB6.out)
    obtain ⟨a0, a1, a2, k0, k1, k2⟩ := hat3.out _ HO.out
    have z0 := own_frozen HO.out (i * 3)
    have z1 := own_frozen HO.out (i * 3 + 1)
    have z2 := own_frozen HO.out (i * 3 + 2)
    have HG6 := Lib.hid (HGR.out _ HB6.out)
    have HR6 := Lib.hid (hset.out _ HO.out)
    have HG7 := Lib.hid (Lib.grownBy_setB (Lib.grownBy_setB (Lib.grownBy_setB HG6.out (i * 3) (.int .i64 pk)) (i * 3 + 1) (.int .i64 pa)) (i * 3 + 2) (.int .i64 pb))
    clear hset hat3 HOWN HGR
    go_wp2
    go_ret
    exact ⟨rfl, HR6.out, HG7.out⟩
end Go.Proofs.YtjgfkmakfdepcaaGreatDoor
