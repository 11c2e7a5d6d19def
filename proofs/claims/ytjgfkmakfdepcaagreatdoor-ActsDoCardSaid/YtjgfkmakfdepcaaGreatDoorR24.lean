/- Own texts, joined: A9, A17, A10, A11, FJ, FM, A23. -/
import Derived.Test.YtjgfkmakfdepcaaGreatDoorR3
import Derived.Test.YtjgfkmakfdepcaaGreatDoorR7
import Derived.Test.YtjgfkmakfdepcaaGreatDoorR9
import Derived.Test.YtjgfkmakfdepcaaGreatDoorR10
import Derived.Test.YtjgfkmakfdepcaaGreatDoorR14
import Derived.Test.YtjgfkmakfdepcaaGreatDoorR15
import Derived.Test.YtjgfkmakfdepcaaGreatDoorR23
import Derived.Laws.StructEq
import Derived.Deep.QuietTactic
import Derived.BigQuiet
import Derived.Deep.Draws
namespace Go.Proofs.YtjgfkmakfdepcaaGreatDoor
open Go.RowKit

instance : DecidableEq VA := fun x y => decidable_of_iff (x.kd = y.kd ∧ x.a = y.a ∧ x.b = y.b) (by cases x; cases y; simp)
theorem str_rowW {w : World} {v : Value} {xs : List (List UInt8)} (h : RdW w v xs) {A : Option Addr} {m c : Nat} (hv : v = .slice A m c) {k : Nat} (hk : k < xs.length) : ∃ b o, A = some ⟨b, o, none⟩ ∧ w.cell? ⟨b, o + k, none⟩ = some (bstr xs[k]) := by
  subst hv
  obtain ⟨b, o, hA, _, hc⟩ := Inn.at_ h hk
  refine ⟨b, o, hA, ?_⟩
  have := hc 0 (bstr xs[k]) (by simp [hk])
  simpa using this

set_option maxRecDepth 100000 in
set_option maxHeartbeats 4000000 in
theorem same2_any (va vb : Value) (xs ys : List (List UInt8)) (w : World) (ha : RdW w va xs) (hb : RdW w vb ys) (hx : xs.length ≤ 140737488355328) :
    Calls Tryz.prog 22 #[va, vb] w fun e w' => e = .returned (.bool (decide (xs = ys))) ∧ ∃ n, w' = w.drewN n := by
  obtain ⟨A, c, rfl⟩ := Inn.form ha
  obtain ⟨B, d, rfl⟩ := Inn.form hb
  have HA := Lib.hid ha; have HB := Lib.hid hb; clear ha hb
  by_cases hlen : xs.length = ys.length
  · obtain ⟨n, hxl⟩ : ∃ n, xs.length = n := ⟨_, rfl⟩
    have hyl : ys.length = n := by omega
    rw [hxl] at hx
    have HXL := Lib.hid hxl; have HYL := Lib.hid hyl
    rw [hxl] at HA
    rw [hyl] at HB
    rw [hxl, hyl]
    clear hlen hxl hyl
    have hr : ∀ k, xs.take k = ys.take k → ¬ k < n → (decide (xs = ys)) = true := by
      intro k h hk
      rw [List.take_of_length_le (by rw [HXL.out]; omega), List.take_of_length_le (by rw [HYL.out]; omega)] at h
      exact decide_eq_true h
    have HR := Lib.hid hr; clear hr
    go_enter Tryz.func22, Tryz.ntmps22
    go_wp2
    go_loopw [4, 5] (fun x i wr => x = .bool false ∧ ∃ k m : Nat, k ≤ n ∧ xs.take k = ys.take k ∧ wr = w.drewN m ∧ i = .int .i64 k) (fun _ i _ => n - (intOf i).toNat)
    case atStart => exact ⟨rfl, 0, 0, by omega, rfl, rfl, rfl⟩
    case round =>
      obtain ⟨rfl, k, m, hk, ht, rfl, rfl⟩ := hrel
      have HT := Lib.hid ht; clear ht
      by_cases hkn : k < n
      · obtain ⟨bA, oA, rfl, ca⟩ := str_rowW HA.out rfl (k := k) (by rw [HXL.out]; exact hkn)
        obtain ⟨bB, oB, rfl, cb⟩ := str_rowW HB.out rfl (k := k) (by rw [HYL.out]; exact hkn)
        obtain ⟨X, hX, hXl⟩ := bstr_some (xs[k]'(by rw [HXL.out]; exact hkn))
        obtain ⟨Y, hY, hYl⟩ := bstr_some (ys[k]'(by rw [HYL.out]; exact hkn))
        rw [hX] at ca
        rw [hY] at cb
        by_cases he : xs[k]'(by rw [HXL.out]; exact hkn) = ys[k]'(by rw [HYL.out]; exact hkn)
        · have hs : xs.take (k + 1) = ys.take (k + 1) := by
            rw [List.take_succ_eq_append_getElem (by rw [HXL.out]; exact hkn), List.take_succ_eq_append_getElem (by rw [HYL.out]; exact hkn), HT.out, he]
          have HS := Lib.hid hs
          obtain rfl : X = Y := str_eq (by rw [hXl, hYl, he])
          clear he hs hX hXl hY hYl
          go_wp2
          go_quiet (fail)
          go_wp2
          go_roundw
          case rel => exact ⟨rfl, k + 1, m + nq, by omega, HS.out, rfl, by go_num⟩
          case measure => simp [intOf]; omega
        · have hdd : (decide (xs = ys)) = false := decide_eq_false (fun e => he (by subst e; rfl))
          have HD := Lib.hid hdd
          have hn0 : X.data.toList ≠ Y.data.toList := by rw [hXl, hYl]; exact he
          have hne := str_ne hn0
          have hne' := str_ne (Ne.symm hn0)
          clear he hX hY hXl hYl hn0 hdd
          go_wp2
          go_quiet (fail)
          go_wp2
          go_ret
          exact ⟨ret_bool HD.out.symm, m + nq, World.drewN_drewN _ _ _⟩
      · have hd := HR.out k HT.out hkn
        have HD := Lib.hid hd; clear hd
        go_wp2
        go_ret
        exact ⟨ret_bool HD.out.symm, m, rfl⟩
  · have hr : (decide (xs = ys)) = false := decide_eq_false (fun e => hlen (by rw [e]))
    have hl' : ((xs.length : Int) == (ys.length : Int)) = false := beq_eq_false_iff_ne.2 (by omega)
    rw [hr]; clear hr hlen
    go_enter Tryz.func22, Tryz.ntmps22
    go_wp2
    go_ret
    exact ⟨rfl, 0, rfl⟩

set_option maxRecDepth 100000 in
set_option maxHeartbeats 4000000 in
theorem sameX_any (va vb : Value) (xs ys : List VA) (w : World) (ha : RdX w va xs) (hb : RdX w vb ys) (hx : xs.length ≤ 140737488355328) :
    Calls Tryz.prog 21 #[va, vb] w fun e w' => e = .returned (.bool (decide (xs = ys))) ∧ ∃ n, w' = w.drewN n := by
  obtain ⟨A, c, rfl⟩ := Inn.form ha
  obtain ⟨B, d, rfl⟩ := Inn.form hb
  have HA := Lib.hid ha; have HB := Lib.hid hb; clear ha hb
  by_cases hlen : xs.length = ys.length
  · obtain ⟨n, hxl⟩ : ∃ n, xs.length = n := ⟨_, rfl⟩
    have hyl : ys.length = n := by omega
    rw [hxl] at hx
    have HXL := Lib.hid hxl; have HYL := Lib.hid hyl
    rw [hxl] at HA
    rw [hyl] at HB
    rw [hxl, hyl]
    clear hlen hxl hyl
    have hr : ∀ k, xs.take k = ys.take k → ¬ k < n → (decide (xs = ys)) = true := by
      intro k h hk
      rw [List.take_of_length_le (by rw [HXL.out]; omega), List.take_of_length_le (by rw [HYL.out]; omega)] at h
      exact decide_eq_true h
    have HR := Lib.hid hr; clear hr
    go_enter Tryz.func21, Tryz.ntmps21
    go_wp2
    go_loopw [4, 5] (fun x i wr => x = .bool false ∧ ∃ k m : Nat, k ≤ n ∧ xs.take k = ys.take k ∧ wr = w.drewN m ∧ i = .int .i64 k) (fun _ i _ => n - (intOf i).toNat)
    case atStart => exact ⟨rfl, 0, 0, by omega, rfl, rfl, rfl⟩
    case round =>
      obtain ⟨rfl, k, m, hk, ht, rfl, rfl⟩ := hrel
      have HT := Lib.hid ht; clear ht
      by_cases hkn : k < n
      · obtain ⟨bA, oA, rfl, _, a0, a1, a2⟩ := RdX.at_ HA.out (k := k) (by rw [HXL.out]; exact hkn)
        obtain ⟨bB, oB, rfl, _, b0, b1, b2⟩ := RdX.at_ HB.out (k := k) (by rw [HYL.out]; exact hkn)
        by_cases he : xs[k]'(by rw [HXL.out]; exact hkn) = ys[k]'(by rw [HYL.out]; exact hkn)
        · have hs : xs.take (k + 1) = ys.take (k + 1) := by
            rw [List.take_succ_eq_append_getElem (by rw [HXL.out]; exact hkn), List.take_succ_eq_append_getElem (by rw [HYL.out]; exact hkn), HT.out, he]
          have HS := Lib.hid hs
          rw [← he] at b0 b1 b2
          clear he hs
          generalize xs[k]'(by rw [HXL.out]; exact hkn) = x at *
          go_wp2
          go_quiet (fail)
          go_wp2
          go_roundw
          case rel => exact ⟨rfl, k + 1, m + nq, by omega, HS.out, rfl, by go_num⟩
          case measure => simp [intOf]; omega
        · have hdd : (decide (xs = ys)) = false := decide_eq_false (fun e => he (by subst e; rfl))
          have HD := Lib.hid hdd
          clear hdd
          generalize xs[k]'(by rw [HXL.out]; exact hkn) = x at *
          generalize ys[k]'(by rw [HYL.out]; exact hkn) = y at *
          obtain ⟨xk, xa, xb⟩ := x
          obtain ⟨yk, ya, yb⟩ := y
          simp only [VA.mk.injEq] at a0 a1 a2 b0 b1 b2 he
          rcases (show xk ≠ yk ∨ (xk = yk ∧ xa ≠ ya) ∨ (xk = yk ∧ xa = ya ∧ xb ≠ yb) by
            by_cases h1 : xk = yk
            · by_cases h2 : xa = ya
              · exact Or.inr (Or.inr ⟨h1, h2, fun h3 => he ⟨h1, h2, h3⟩⟩)
              · exact Or.inr (Or.inl ⟨h1, h2⟩)
            · exact Or.inl h1) with h1 | ⟨rfl, h1⟩ | ⟨rfl, rfl, h1⟩
          all_goals
            have h2 := int_ne h1
            have h3 := int_ne (Ne.symm h1)
            clear he h1
          all_goals
            go_wp2
            go_quiet (fail)
            go_wp2
            go_ret
            exact ⟨ret_bool HD.out.symm, m + nq, World.drewN_drewN _ _ _⟩
      · have hd := HR.out k HT.out hkn
        have HD := Lib.hid hd; clear hd
        go_wp2
        go_ret
        exact ⟨ret_bool HD.out.symm, m, rfl⟩
  · have hr : (decide (xs = ys)) = false := decide_eq_false (fun e => hlen (by rw [e]))
    have hl' : ((xs.length : Int) == (ys.length : Int)) = false := beq_eq_false_iff_ne.2 (by omega)
    rw [hr]; clear hr hlen
    go_enter Tryz.func21, Tryz.ntmps21
    go_wp2
    go_ret
    exact ⟨rfl, 0, rfl⟩

set_option maxRecDepth 100000 in
set_option maxHeartbeats 2000000 in
theorem refFits_any (x : VM) (X : ByteArray) (y : VA) (w : World) :
    Calls Tryz.prog 23 #[.agg #[.string X, .int .i64 x.kd, .int .i64 x.lo, .int .i64 x.hi, .int .i64 x.ik, .int .i64 x.ia, .int .i64 x.ib], .agg #[.int .i64 y.kd, .int .i64 y.a, .int .i64 y.b]] w fun e w' => e = .returned (.bool (mayB x y)) ∧ Below w.heap.size w w' := by
  obtain ⟨yk, ya, yb⟩ := y
  obtain ⟨xnm, xkd, xlo, xhi, xik, xia, xib⟩ := x
  dsimp only
  have HB0 : Hid (∀ o1 o2 : Obj, Below w.heap.size w ((w.alloc o1).alloc o2)) := fun o1 o2 => ((Below.refl _ _).alloc (Nat.le_refl _) _).alloc (by simp) _
  by_cases h1 : yk = xkd
  · obtain rfl : xkd = yk := h1.symm
    by_cases h2 : xlo ≤ ya
    · by_cases h2' : ya ≤ xhi
      · by_cases h3 : xkd = 3
        · by_cases h4 : xlo ≤ yb
          · by_cases h5 : yb ≤ xhi
            · have HL : Hid (mayB ⟨xnm, xkd, xlo, xhi, xik, xia, xib⟩ ⟨xkd, ya, yb⟩ = true) := by show mayB _ _ = _; simp [mayB, h2, h2', h4, h5]
              rw [HL.out]
              subst h3
              go_enter Tryz.func23, Tryz.ntmps23
              go_wp2
              go_ret
              exact ⟨rfl, HB0.out _ _⟩
            · have HL : Hid (mayB ⟨xnm, xkd, xlo, xhi, xik, xia, xib⟩ ⟨xkd, ya, yb⟩ = false) := by show mayB _ _ = _; simp [mayB, h3, h5]
              rw [HL.out]
              subst h3
              go_enter Tryz.func23, Tryz.ntmps23
              go_wp2
              go_ret
              exact ⟨rfl, HB0.out _ _⟩
          · have HL : Hid (mayB ⟨xnm, xkd, xlo, xhi, xik, xia, xib⟩ ⟨xkd, ya, yb⟩ = false) := by show mayB _ _ = _; simp [mayB, h3, h4]
            rw [HL.out]
            subst h3
            go_enter Tryz.func23, Tryz.ntmps23
            go_wp2
            go_ret
            exact ⟨rfl, HB0.out _ _⟩
        · have HL : Hid (mayB ⟨xnm, xkd, xlo, xhi, xik, xia, xib⟩ ⟨xkd, ya, yb⟩ = true) := by show mayB _ _ = _; simp [mayB, h2, h2', h3]
          rw [HL.out]
          have h3' := int_ne h3
          have h3'' : (xkd != 3) = true := bne_iff_ne.2 h3
          go_enter Tryz.func23, Tryz.ntmps23
          go_wp2
          go_ret
          exact ⟨rfl, HB0.out _ _⟩
      · have HL : Hid (mayB ⟨xnm, xkd, xlo, xhi, xik, xia, xib⟩ ⟨xkd, ya, yb⟩ = false) := by show mayB _ _ = _; simp [mayB, h2']
        rw [HL.out]
        go_enter Tryz.func23, Tryz.ntmps23
        go_wp2
        go_ret
        exact ⟨rfl, HB0.out _ _⟩
    · have HL : Hid (mayB ⟨xnm, xkd, xlo, xhi, xik, xia, xib⟩ ⟨xkd, ya, yb⟩ = false) := by show mayB _ _ = _; simp [mayB, h2]
      rw [HL.out]
      go_enter Tryz.func23, Tryz.ntmps23
      go_wp2
      go_ret
      exact ⟨rfl, HB0.out _ _⟩
  · have h1' := int_ne h1
    have h1'' := int_ne (fun h => h1 (Eq.symm h))
    have HL : Hid (mayB ⟨xnm, xkd, xlo, xhi, xik, xia, xib⟩ ⟨yk, ya, yb⟩ = false) := by show mayB _ _ = _; simp only [mayB, decide_eq_false h1]; simp
    rw [HL.out]
    go_enter Tryz.func23, Tryz.ntmps23
    go_wp2
    go_ret
    exact ⟨rfl, HB0.out _ _⟩

theorem long_any (A : Option Addr) (n c : Nat) (w : World) (hn : n ≤ 4611686018427387904) :
    Calls Tryz.prog 18 #[.slice A n c] w fun e w' => e = .returned (.bool (decide (100 < n))) ∧ w' = w := by
  by_cases h : 100 < n
  · rw [decide_eq_true h]
    have h' : (100 : Int) < (n : Int) := by omega
    clear h
    go_enter Tryz.func18, Tryz.ntmps18
    go_wp2
    go_ret
    exact ⟨rfl, rfl⟩
  · rw [decide_eq_false h]
    have h' : ¬ (100 : Int) < (n : Int) := by omega
    clear h
    go_enter Tryz.func18, Tryz.ntmps18
    go_wp2
    go_ret
    exact ⟨rfl, rfl⟩
end Go.Proofs.YtjgfkmakfdepcaaGreatDoor
namespace Go.Proofs.YtjgfkmakfdepcaaGreatDoor
open Go.RowKit

instance : DecidableEq AM := fun x y => decidable_of_iff (x.kd = y.kd ∧ x.nm = y.nm ∧ x.ex = y.ex) (by cases x; cases y; simp)
end Go.Proofs.YtjgfkmakfdepcaaGreatDoor
namespace Go.Proofs.YtjgfkmakfdepcaaGreatDoor
open Go.RowKit

def wakeL : List AM := [⟨1, [120], [⟨5, 0, [120]⟩, ⟨1, 1, []⟩, ⟨11, 0, []⟩]⟩, ⟨3, [100, 111, 110, 101], []⟩]
def wakeV : List VM := [⟨[120], 1, 0, 9, 0, 0, 0⟩]
def wakeX : List VA := [⟨1, 3, 0⟩]
theorem parse_wake : parseA [120, 61, 120, 43, 49, 59, 115, 101, 110, 100, 58, 100, 111, 110, 101] = (wakeL, 0) := by kernel_rfl
theorem do_wake : doP wakeV wakeL wakeX [] [] = ⟨[⟨1, 4, 0⟩], [], [[100, 111, 110, 101]], true⟩ := by kernel_rfl

set_option maxRecDepth 100000 in
set_option maxHeartbeats 4000000 in
theorem wakes6_any (w : World) (hO : Ops w) (hM : ML w) :
    Calls Tryz.prog 12 #[] w fun e w' => e = .returned (.bool true) ∧ Below w.heap.size w w' := by
  have HP := Lib.hid (parseA_any ⟨#[120, 61, 120, 43, 49, 59, 115, 101, 110, 100, 58, 100, 111, 110, 101]⟩ w hO hM (by decide))
  clear hO hM
  go_enter Tryz.func12, Tryz.ntmps12
  go_wp2_with fail
  refine HP.out.mono ?_
  rintro e w1 ⟨v, ps, rfl, hps, hrow, hact, hb1⟩
  rw [show parseA (ByteArray.mk #[120, 61, 120, 43, 49, 59, 115, 101, 110, 100, 58, 100, 111, 110, 101]).data.toList = (wakeL, 0) from parse_wake] at hps ⊢
  simp only at hps ⊢
  have hl : ps.length = 2 := by have := congrArg List.length hps; rw [List.length_map] at this; exact this
  have hA : RdA w1 v ps := ⟨Inn.of_own hrow, hact⟩
  obtain ⟨A, c, rfl⟩ := hA.form
  rw [hl] at hA ⊢
  have HB2 : Hid (Below w.heap.size w ((w1.alloc (.cells #[.string ⟨#[120]⟩, .int .i64 1, .int .i64 0, .int .i64 9, .int .i64 0, .int .i64 0, .int .i64 0] 56)).alloc (.cells #[.int .i64 1, .int .i64 3, .int .i64 0] 54))) := (hb1.alloc hb1.size _).alloc (hb1.alloc hb1.size _).size _
  have HB2' : Hid (Below w1.heap.size w1 ((w1.alloc (.cells #[.string ⟨#[120]⟩, .int .i64 1, .int .i64 0, .int .i64 9, .int .i64 0, .int .i64 0, .int .i64 0] 56)).alloc (.cells #[.int .i64 1, .int .i64 3, .int .i64 0] 54))) := ((Below.refl _ _).alloc (Nat.le_refl _) _).alloc (by simp) _
  have hv : RdV (w1.alloc (.cells #[.string ⟨#[120]⟩, .int .i64 1, .int .i64 0, .int .i64 9, .int .i64 0, .int .i64 0, .int .i64 0] 56)) (.slice (some ⟨w1.heap.size, 0, none⟩) 1 1) wakeV := Inn.of_own (Oz.own_laid (B := 0) (size := 7) w1 #[.string ⟨#[120]⟩, .int .i64 1, .int .i64 0, .int .i64 9, .int .i64 0, .int .i64 0, .int .i64 0] (Nat.zero_le _) (by decide) rfl)
  have hv2 : RdV ((w1.alloc (.cells #[.string ⟨#[120]⟩, .int .i64 1, .int .i64 0, .int .i64 9, .int .i64 0, .int .i64 0, .int .i64 0] 56)).alloc (.cells #[.int .i64 1, .int .i64 3, .int .i64 0] 54)) (.slice (some ⟨w1.heap.size, 0, none⟩) 1 1) wakeV := hv.below ((Below.refl _ _).alloc (Nat.le_refl _) _)
  have hx2 : RdX ((w1.alloc (.cells #[.string ⟨#[120]⟩, .int .i64 1, .int .i64 0, .int .i64 9, .int .i64 0, .int .i64 0, .int .i64 0] 56)).alloc (.cells #[.int .i64 1, .int .i64 3, .int .i64 0] 54)) (.slice (some ⟨w1.heap.size + 1, 0, none⟩) 1 1) wakeX := by
    have := Inn.of_own (Oz.own_laid (B := 0) (e := 54) (n := 1) (size := 3) (w1.alloc (.cells #[.string ⟨#[120]⟩, .int .i64 1, .int .i64 0, .int .i64 9, .int .i64 0, .int .i64 0, .int .i64 0] 56)) #[.int .i64 1, .int .i64 3, .int .i64 0] (Nat.zero_le _) (by decide) rfl)
    rw [show (w1.alloc (.cells #[.string ⟨#[120]⟩, .int .i64 1, .int .i64 0, .int .i64 9, .int .i64 0, .int .i64 0, .int .i64 0] 56)).heap.size = w1.heap.size + 1 by simp] at this
    exact this
  have hdo := do_any (.slice A 2 c) _ _ ps wakeV wakeX _ (hA.below HB2'.out) (by omega) hv2 (by decide) hx2 (by decide) (by decide)
  rw [hps, do_wake] at hdo
  have HDO := Lib.hid hdo
  clear hA hrow hact hv hv2 hx2 hdo hps hl hb1
  go_wp2_with fail
  refine HDO.out.mono ?_
  rintro e w2 ⟨v1, v2, v3, rfl, hR, hb2⟩
  have HB3 := Lib.hid (HB2.out.trans (hb2.mono HB2.out.size))
  clear hb2
  have HX := hR.x; have HR := hR.r; have HS := hR.s
  clear hR
  obtain ⟨R1, rc, rfl⟩ := own_slice HR
  obtain ⟨S1, sc, rfl⟩ := own_slice HS
  obtain ⟨g, xc, rfl⟩ : ∃ g cap, v1 = .slice (some ⟨g, 0, none⟩) 1 cap := by
    rcases HX.2 with ⟨_, h0⟩ | ⟨g, cap, cur, h1, _⟩
    · cases h0
    · exact ⟨g, cap, h1⟩
  have hc1 : w2.cell? ⟨g, 1, none⟩ = some (.int .i64 4) := (HX.cellAt 1 (by decide)).trans rfl
  have HB4 : Hid (Below w.heap.size w (w2.alloc (.cells #[.string ⟨#[100, 111, 110, 101]⟩] 9))) := HB3.out.alloc HB3.out.size _
  have hc1' : (w2.alloc (.cells #[.string ⟨#[100, 111, 110, 101]⟩] 9)).cell? ⟨g, 1, none⟩ = some (.int .i64 4) := old_cell hc1
  have hsame := same2_any (.slice S1 1 sc) (.slice (some ⟨w2.heap.size, 0, none⟩) 1 1) [[100, 111, 110, 101]] [[100, 111, 110, 101]] (w2.alloc (.cells #[.string ⟨#[100, 111, 110, 101]⟩] 9)) (Inn.below (Inn.of_own HS) ((Below.refl _ _).alloc (Nat.le_refl _) _)) (inn_one _ _ _ rfl) (by decide)
  rw [decide_eq_true rfl] at hsame
  have HSA := Lib.hid hsame
  clear HX HR HS hsame hc1
  go_wp2_with fail
  refine HSA.out.mono ?_
  rintro e w3 ⟨rfl, q, rfl⟩
  have hc2 : ((w2.alloc (.cells #[.string ⟨#[100, 111, 110, 101]⟩] 9)).drewN q).cell? ⟨g, 1, none⟩ = some (.int .i64 4) := hc1'
  have HB5 := Lib.hid (below_drewN HB4.out q)
  clear hc1'
  go_wp2
  go_ret
  exact ⟨rfl, HB5.out⟩
end Go.Proofs.YtjgfkmakfdepcaaGreatDoor
namespace Go.Proofs.YtjgfkmakfdepcaaGreatDoor
open Go.RowKit

theorem flatA_vals {w : World} {ps : List AP} (h : ∀ p ∈ ps, ActR w p) : ∀ u ∈ flatA ps, u.oneCell' = true := by
  intro u hu
  obtain ⟨p, hp, hv⟩ := List.mem_flatMap.1 hu
  obtain ⟨A, c, e⟩ := (h p hp).rd.slice
  simp only [actV, List.mem_cons, List.not_mem_nil, or_false] at hv
  rcases hv with rfl | rfl | rfl
  · rfl
  · rfl
  · rw [e]; rfl
theorem flatA_set (v : Value) : ∀ (ps : List AP) (k : Nat) (h : k < ps.length), (flatA ps).set (k * 3 + 2) v = flatA (ps.set k (ps[k].1, v))
  | [], k, h => by simp at h
  | p :: r, 0, _ => rfl
  | p :: r, k + 1, h => by
    have ih := flatA_set v r k (by simpa using h)
    have e : (k + 1) * 3 + 2 = (k * 3 + 2) + 3 := by omega
    show ((actV p ++ flatA r).set ((k + 1) * 3 + 2) v) = actV p ++ flatA (r.set k ((p :: r)[k + 1].1, v))
    rw [e]
    show actV p ++ (flatA r).set (k * 3 + 2) v = _
    rw [ih]; rfl

/-- what copied comes to -/
def CopyPost (ps : List AP) (w : World) (e : Ending) (w' : World) : Prop :=
  ∃ v qs, e = .returned v ∧ qs.map Prod.fst = ps.map Prod.fst ∧ w'.ownsRow w.heap.size 59 3 v qs.length (flatA qs) ∧ (∀ p ∈ qs, ActR w' p) ∧ Below w.heap.size w w'
structure CoI (ps : List AP) (w wr : World) (v : Value) (k : Nat) (qs : List AP) : Prop where
  le : k ≤ ps.length
  len : qs.length = ps.length
  eq : qs.map Prod.fst = ps.map Prod.fst
  rest : ∀ j, k ≤ j → qs[j]? = ps[j]?
  row : wr.ownsRow w.heap.size 59 3 v ps.length (flatA qs)
  act : ∀ j p, j < k → qs[j]? = some p → ActO w.heap.size wr p ∧ ∀ g, v.ownBlock = some g → p.2.ownBlock ≠ some g
  below : Below w.heap.size w wr
theorem CoI.put {ps qs : List AP} {w wr w2 : World} {g n cap k : Nat} {v' : Value} (hn : ps.length = n) (h : CoI ps w wr (.slice (some ⟨g, 0, none⟩) n cap) k qs) (hk : k < n) (hb : Below wr.heap.size wr w2) (hr : w2.ownsRow wr.heap.size 93 3 v' (ps[k]'(by omega)).1.ex.length (flat (ps[k]'(by omega)).1.ex)) (hA : ActR w (ps[k]'(by omega))) :
    CoI ps w (w2.setCell ⟨g, k * 3 + 2, none⟩ v') (.slice (some ⟨g, 0, none⟩) n cap) (k + 1) (qs.set k ((ps[k]'(by omega)).1, v')) := by
  subst hn
  have hkq : k < qs.length := by rw [h.len]; exact hk
  have hqk : qs[k] = ps[k] := by
    have := h.rest k (Nat.le_refl _)
    rw [List.getElem?_eq_getElem hkq, List.getElem?_eq_getElem hk] at this
    exact Option.some.inj this
  have hs := h.below.size
  have hgl := h.row.lt g rfl
  have hrow := own_set (own_below h.row hb) (k * 3 + 2) v'
  rw [flatA_set v' qs k hkq, hqk] at hrow
  have hb3 : Below w.heap.size w (w2.setCell ⟨g, k * 3 + 2, none⟩ v') := ((h.below.trans (hb.mono hs))).setCell hgl.1 _
  have hfar : ∀ q, v'.ownBlock = some q → g ≠ q := fun q hq => by have := (hr.lt q hq).1; omega
  have hgr : w2.grownBy (w2.setCell ⟨g, k * 3 + 2, none⟩ v') (some g) := Lib.grownBy_setB (World.grownBy.refl w2 (some g)) _ _
  refine ⟨hk, by rw [List.length_set]; exact h.len, ?_, ?_, hrow, ?_, hb3⟩
  · rw [List.map_set, h.eq]
    have e : ps[k].1 = (ps.map Prod.fst)[k]'(by simpa using hk) := by simp
    rw [show ((ps[k].1, v') : AP).1 = ps[k].1 from rfl, e]
    exact List.set_getElem_self _
  · intro j hj
    rw [List.getElem?_set_ne (by omega)]
    exact h.rest j (by omega)
  · intro j p hj hp
    by_cases e : j = k
    · subst e
      rw [List.getElem?_set_self hkq] at hp
      cases hp
      refine ⟨⟨(own_lower hr hs).kept hgr ?_, hA.len, hA.names, hA.name⟩, fun q hq hv => ?_⟩
      · cases hv : v'.ownBlock with
        | none => exact Or.inl rfl
        | some q => exact Or.inr (fun he => hfar q hv (Option.some.inj he).symm)
      · simp only [Value.ownBlock, Option.some.injEq] at hq
        exact hfar q hv hq
    · rw [List.getElem?_set_ne (fun h => e h.symm)] at hp
      obtain ⟨h1, h2⟩ := h.act j p (by omega) hp
      refine ⟨⟨(own_below h1.own hb).kept hgr ?_, h1.len, h1.names, h1.name⟩, h2⟩
      cases hv : p.2.ownBlock with
      | none => exact Or.inl rfl
      | some q => exact Or.inr (fun he => h2 g rfl (hv.trans he))

set_option maxRecDepth 100000 in
set_option maxHeartbeats 4000000 in
theorem copied6_any (v : Value) (ps : List AP) (w : World) (hA : RdA w v ps) (hl : ps.length * 48 ≤ 140737488355328) :
    Calls Tryz.prog 10 #[v] w (CopyPost ps w) := by
  obtain ⟨ia, hi0, hi1, hi2, hi3⟩ := info_of infoAct
  have HX0 := Lib.hid hi0; have HX1 := Lib.hid hi1; have HX2 := Lib.hid hi2; have HX3 := Lib.hid hi3
  obtain ⟨ic, hc0, hc1, hc2, hc3⟩ := info_of Tryz.infoCell
  have HC0 := Lib.hid hc0; have HC1 := Lib.hid hc1; have HC2 := Lib.hid hc2; have HC3 := Lib.hid hc3
  obtain ⟨P, pc, rfl⟩ := hA.form
  have HW : Hid (Below w.heap.size w (w.alloc (.cells #[] 59))) := (Below.refl _ _).alloc (Nat.le_refl _) _
  have HE : Hid ((w.alloc (.cells #[] 59)).ownsRow w.heap.size 59 3 (.slice (some ⟨w.heap.size, 0, none⟩) 0 0) 0 []) := World.ownsRow_made w #[] 0 (Nat.le_refl _) (by unfold maxLen; omega) (by simp)
  have HI : Hid (Inn (w.alloc (.cells #[] 59)) 3 (.slice P ps.length pc) ps.length (flatA ps)) := Inn.below hA.inn HW.out
  have HAC : Hid (∀ p ∈ ps, ActR w p) := hA.acts
  obtain ⟨n, hn⟩ : ∃ n, ps.length = n := ⟨_, rfl⟩
  have HN := Lib.hid hn
  have HVA := Lib.hid (flatA_vals hA.acts)
  rw [hn] at hl HI ⊢
  clear hi0 hi1 hi2 hi3 hc0 hc1 hc2 hc3 hA hn
  go_enter Tryz.func10, Tryz.ntmps10
  go_wp2_with (at_builtin; refine Ow.wpList_append rfl (.tmp 5) (.tmp 6) 22 rfl w.heap.size 59 ia _ 3 48 Tryz.underlying22 HX0.out HX1.out HX2.out HX3.out rfl (by decide) _ 0 [] rfl HE.out _ n (flatA ps) rfl HI.out HVA.out (by unfold maxLen; omega) (by omega) (by simp) ?_)
  intro v1 w1 ho1 hg1 _
  have ho1 : w1.ownsRow w.heap.size 59 3 v1 n (flatA ps) := by simpa using ho1
  have HB1 : Hid (Below w.heap.size w w1) := HW.out.grown hg1 (by simp) (fun k hk => (HE.out.lt k hk).1)
  obtain ⟨A0, cap, rfl⟩ := own_slice ho1
  have HI0 : Hid (CoI ps w w1 (.slice A0 n cap) 0 ps) := ⟨Nat.zero_le _, rfl, rfl, fun _ _ => rfl, by rw [HN.out]; exact ho1, (fun j p hj => by omega), HB1.out⟩
  clear ho1 hg1
  go_wp2
  go_loopw [10] (fun x10 wr => ∃ (k : Nat) (qs : List AP), CoI ps w wr (.slice A0 n cap) k qs ∧ x10 = .int .i64 (k : Int)) (fun i _ => n - (intOf i).toNat)
  case atStart => exact ⟨0, ps, HI0.out, rfl⟩
  case round =>
    obtain ⟨k, qs, hI, rfl⟩ := hrel
    obtain ⟨wl, hwl⟩ : ∃ W, W = wr := ⟨_, rfl⟩
    subst hwl
    have hk := hI.le
    rw [HN.out] at hk
    by_cases hkn : k < n
    · have hrow := hI.row
      rw [HN.out] at hrow
      obtain ⟨g, rfl⟩ : ∃ g, A0 = some ⟨g, 0, none⟩ := by
        rcases hrow.2 with ⟨_, h0⟩ | ⟨g, cap', cur, h1, _⟩
        · omega
        · simp only [Value.slice.injEq] at h1; exact ⟨g, h1.1⟩
      have hkp : k < ps.length := by rw [HN.out]; exact hkn
      have hkq : k < qs.length := by rw [hI.len]; exact hkp
      have hqk : qs[k] = ps[k] := by
        have := hI.rest k (Nat.le_refl _)
        rw [List.getElem?_eq_getElem hkq, List.getElem?_eq_getElem hkp] at this
        exact Option.some.inj this
      have hd2 : wl.cell? ⟨g, k * 3 + 2, none⟩ = some ps[k].2 := (hrow.cellAt (k * 3 + 2) (by omega)).trans ((flatA_at hkq (j := 2) (by omega)).trans (by rw [hqk]; rfl))
      have hact := HAC.out ps[k] (List.getElem_mem hkp)
      have hput := fun w2 v' => hI.put (w2 := w2) (v' := v') HN.out hkn
      have hfz : ∀ W, Below wl.heap.size wl W → W.frozen? ⟨g, k * 3 + 2, none⟩ = false ∧ W.cell? ⟨g, k * 3 + 2, none⟩ = some ps[k].2 := fun W hb => ⟨own_frozen (own_below hrow hb) _, (hb.cell (cell_lt hd2)).trans hd2⟩
      have HB := Lib.hid hI.below
      have HFZ := Lib.hid hfz
      clear hI hrow hkq hqk hfz
      generalize ps[k] = p at *
      clear hkp
      obtain ⟨⟨ak, an, ae⟩, pv⟩ := p
      simp only at hd2 hact hput HFZ
      have hrd := hact.rd
      have hael := hact.len
      simp only at hrd hael
      obtain ⟨Ap, cp, rfl⟩ := hrd.slice
      have HIN : Hid (Inn (wl.alloc (.cells #[] 93)) 3 (.slice Ap ae.length cp) ae.length (flat ae)) := Inn.below (Inn.below hrd.inn HB.out) ((Below.refl _ _).alloc (Nat.le_refl _) _)
      have HWE : Hid (Below wl.heap.size wl (wl.alloc (.cells #[] 93))) := (Below.refl _ _).alloc (Nat.le_refl _) _
      have HEE : Hid ((wl.alloc (.cells #[] 93)).ownsRow wl.heap.size 93 3 (.slice (some ⟨wl.heap.size, 0, none⟩) 0 0) 0 []) := World.ownsRow_made wl #[] 0 (Nat.le_refl _) (by unfold maxLen; omega) (by simp)
      have HPU := Lib.hid (fun w2 v' h1 h2 => hput w2 v' h1 h2 hact)
      have hd2' : (wl.alloc (.cells #[] 93)).cell? ⟨g, k * 3 + 2, none⟩ = some (.slice Ap ae.length cp) := old_cell hd2
      clear hact hput hrd
      go_wp2_with (at_builtin; refine Ow.wpList_append rfl (.tmp 15) (.tmp 20) 57 rfl wl.heap.size 93 ic _ 3 32 Tryz.underlying57 HC0.out HC1.out HC2.out HC3.out rfl (by decide) _ 0 [] rfl HEE.out _ ae.length (flat ae) rfl HIN.out (flat_vals ae) (by unfold maxLen; omega) (by omega) (by simp) ?_)
      intro v2 w2 ho2 hg2 _
      have ho2 : w2.ownsRow wl.heap.size 93 3 v2 ae.length (flat ae) := by simpa using ho2
      have hb2 : Below wl.heap.size wl w2 := HWE.out.grown hg2 (by simp) (fun k hk => (HEE.out.lt k hk).1)
      obtain ⟨fz, ce⟩ := HFZ.out w2 hb2
      have HI2 := Lib.hid (HPU.out w2 v2 hb2 ho2)
      obtain ⟨A2, c2, rfl⟩ := own_slice ho2
      clear ho2 hg2 hb2 hd2 hd2'
      go_wp2
      go_roundw
      case rel => exact ⟨k + 1, _, HI2.out, by go_num⟩
      case measure => simp [intOf]; omega
    · obtain rfl : k = n := by omega
      have hrow := hI.row
      rw [← hI.len] at hrow
      have hall : ∀ p ∈ qs, ActR wl p := by
        intro p hp
        obtain ⟨j, hj, e⟩ := List.getElem_of_mem hp
        exact (hI.act j p (by rw [hI.len, HN.out] at hj; exact hj) (by rw [List.getElem?_eq_getElem hj, e])).1.rd
      have heq := hI.eq
      have HB := Lib.hid hI.below
      have HR := Lib.hid hrow; have HAL := Lib.hid hall; have HEQ := Lib.hid heq
      clear hI hrow hall heq
      go_wp2
      go_ret
      exact ⟨_, qs, rfl, HEQ.out, HR.out, HAL.out, HB.out⟩
end Go.Proofs.YtjgfkmakfdepcaaGreatDoor
namespace Go.Proofs.YtjgfkmakfdepcaaGreatDoor
open Go.RowKit

def ToldPost (x : List UInt8) (w : World) (e : Ending) (w' : World) : Prop := e = .returned (bstr x) ∧ Below w.heap.size w w'
theorem ToldPost.of {x : List UInt8} {w w' : World} {X : ByteArray} (hX : X = ⟨x.toArray⟩) (hb : Below w.heap.size w w') : ToldPost x w (.returned (.string X)) w' := by subst hX; exact ⟨rfl, hb⟩
end Go.Proofs.YtjgfkmakfdepcaaGreatDoor
namespace Go.Proofs.YtjgfkmakfdepcaaGreatDoor
open Go.RowKit

/-- where the cells of a tree stand in a list -/
def Sits (cs : List CM) (p : Nat) (t : T) : Prop := ∃ A B, cs = A ++ post t ++ B ∧ A.length = p
theorem Sits.le {cs : List CM} {p : Nat} {t : T} (h : Sits cs p t) : p + (post t).length ≤ cs.length := by
  obtain ⟨A, B, rfl, rfl⟩ := h; rw [List.length_append, List.length_append]; omega
theorem Sits.un {cs : List CM} {p : Nat} {o : Int} {t : T} (h : Sits cs p (.un o t)) : Sits cs p t := by
  obtain ⟨A, B, rfl, rfl⟩ := h
  exact ⟨A, opC o :: B, by simp [post], rfl⟩
theorem Sits.left {cs : List CM} {p : Nat} {o : Int} {l r : T} (h : Sits cs p (.bin o l r)) : Sits cs p l := by
  obtain ⟨A, B, rfl, rfl⟩ := h
  exact ⟨A, post r ++ opC o :: B, by simp [post], rfl⟩
theorem Sits.right {cs : List CM} {p : Nat} {o : Int} {l r : T} (h : Sits cs p (.bin o l r)) : Sits cs (p + (post l).length) r := by
  obtain ⟨A, B, rfl, rfl⟩ := h
  exact ⟨A ++ post l, opC o :: B, by simp [post], by simp⟩
def lastC : T → CM
  | .leaf c => c
  | .un o _ => opC o
  | .bin o _ _ => opC o
theorem Sits.last {cs : List CM} {p : Nat} {t : T} (h : Sits cs p t) : cs[p + (post t).length - 1]? = some (lastC t) := by
  obtain ⟨A, B, rfl, rfl⟩ := h
  cases t with
  | leaf c => simp [post, lastC]
  | un o t =>
    have e : A.length + (post (.un o t)).length - 1 = (A ++ post t).length := by simp [post]
    rw [e, show A ++ post (.un o t) ++ B = (A ++ post t) ++ (opC o :: B) by simp [post]]
    simp [lastC]
  | bin o l r =>
    have e : A.length + (post (.bin o l r)).length - 1 = (A ++ post l ++ post r).length := by simp [post]; omega
    rw [e, show A ++ post (.bin o l r) ++ B = (A ++ post l ++ post r) ++ (opC o :: B) by simp [post]]
    simp [lastC]

end Go.Proofs.YtjgfkmakfdepcaaGreatDoor
namespace Go.Proofs.YtjgfkmakfdepcaaGreatDoor
open Go.RowKit

theorem two_boxes (w : World) (Z A : Array Value) (t : TypeId) : ((w.alloc (.cells Z t)).alloc (.cells A t)).heap[w.heap.size]? = some (.cells Z t (0, 0)) ∧
    ((w.alloc (.cells Z t)).alloc (.cells A t)).heap[w.heap.size + 1]? = some (.cells A t (0, 0)) ∧ Below w.heap.size w ((w.alloc (.cells Z t)).alloc (.cells A t)) ∧ ((w.alloc (.cells Z t)).alloc (.cells A t)).heap.size = w.heap.size + 2 := by
  have hs : (w.alloc (.cells Z t)).heap.size = w.heap.size + 1 := by simp
  refine ⟨?_, ?_, ((Below.refl _ _).alloc (Nat.le_refl _) _).alloc (by simp) _, by simp⟩
  · have h := ((Below.refl (w.alloc (.cells Z t)).heap.size (w.alloc (.cells Z t))).alloc (Nat.le_refl _) (.cells A t)).block w.heap.size (by simp)
    rw [h]
    exact heap_alloc_new w _
  · have h := heap_alloc_new (w.alloc (.cells Z t)) (.cells A t)
    rw [hs] at h
    exact h
end Go.Proofs.YtjgfkmakfdepcaaGreatDoor
