/- Own texts, joined: Kc, Kd, Ke, Kg. -/
import Derived.Test.YtkjkcgbmaojpiaaGreatDoorR2
import Derived.Test.YtkjkcgbmaojpiaaGreatDoorR7
import Derived.Test.YtkjkcgbmaojpiaaGreatDoorR8
import Derived.Test.YtkjkcgbmaojpiaaGreatDoorR9
namespace Go.Proofs.YtkjkcgbmaojpiaaGreatDoor.Kd
open Go.RowKit
theorem op_bin {o : Int} (h : 11 ≤ o ∧ o ≤ 23) : o = 11 ∨ o = 12 ∨ o = 13 ∨ o = 14 ∨ o = 15 ∨ o = 16 ∨ o = 17 ∨ o = 18 ∨ o = 19 ∨ o = 20 ∨ o = 21 ∨ o = 22 ∨ o = 23 := by omega
theorem op_un {o : Int} (h : 7 ≤ o ∧ o ≤ 10) : o = 7 ∨ o = 8 ∨ o = 9 ∨ o = 10 := by omega
theorem op_leaf {o : Int} (h : 1 ≤ o ∧ o ≤ 6) : o = 1 ∨ o = 2 ∨ o = 3 ∨ o = 4 ∨ o = 5 ∨ o = 6 := by omega
theorem kd_three {k : Int} (h : 1 ≤ k ∧ k ≤ 3) : k = 1 ∨ k = 2 ∨ k = 3 := by omega
theorem op_all {o : Int} (h : 1 ≤ o ∧ o ≤ 23) : (1 ≤ o ∧ o ≤ 6) ∨ (7 ≤ o ∧ o ≤ 10) ∨ (11 ≤ o ∧ o ≤ 23) := by omega
theorem kOperands_any (op : Int) (w : World) (h : 1 ≤ op ∧ op ≤ 23) :
  Calls Tryz.prog 186 #[.int .i64 op] w fun e w' => e = .returned (.int .i64 (operN op)) ∧ w = w' := by
 rcases op_all h with h | h | h
 ·rcases op_leaf h with rfl | rfl | rfl | rfl | rfl | rfl
  all_goals
   go_enter Tryz.func186, Tryz.ntmps186
   go_wp2
   go_ret
   exact ⟨rfl, rfl⟩
 ·rcases op_un h with rfl | rfl | rfl | rfl
  all_goals
   go_enter Tryz.func186, Tryz.ntmps186
   go_wp2
   go_ret
   exact ⟨rfl, rfl⟩
 ·rcases op_bin h with rfl | rfl | rfl | rfl | rfl | rfl | rfl | rfl | rfl | rfl | rfl | rfl | rfl
  all_goals
   go_enter Tryz.func186, Tryz.ntmps186
   go_wp2
   go_ret
   exact ⟨rfl, rfl⟩
def aloneK (op : Int) : Int := if op = 1 then 1 else if op = 2 then 3 else 2
theorem alone_any (op : Int) (w : World) (h : 1 ≤ op ∧ op ≤ 6) :
  Calls Tryz.prog 206 #[.int .i64 op] w fun e w' => e = .returned (.int .i64 (aloneK op)) ∧ w = w' := by
 rcases op_leaf h with rfl | rfl | rfl | rfl | rfl | rfl
 all_goals
  go_enter Tryz.func206, Tryz.ntmps206
  go_wp2
  go_ret
  exact ⟨rfl, rfl⟩
set_option maxHeartbeats 1000000 in
theorem ahead_any (op k : Int) (w : World) (h : 7 ≤ op ∧ op ≤ 10) (hk : 1 ≤ k ∧ k ≤ 3) :
  Calls Tryz.prog 207 #[.int .i64 op, .int .i64 k] w fun e w' => e = .returned (.int .i64 (unK op k)) ∧ w = w' := by
 rcases op_un h with rfl | rfl | rfl | rfl <;> rcases kd_three hk with rfl | rfl | rfl
 all_goals
  go_enter Tryz.func207, Tryz.ntmps207
  go_wp2
  go_ret
  exact ⟨rfl, rfl⟩
set_option maxHeartbeats 4000000 in
theorem between_any (op a b : Int) (w : World) (h : 11 ≤ op ∧ op ≤ 23) (hk : 1 ≤ a ∧ a ≤ 3) :
  Calls Tryz.prog 208 #[.int .i64 op, .int .i64 a, .int .i64 b] w fun e w' => e = .returned (.int .i64 (if a ≠ b then 0 else binK op a)) ∧ w = w' := by
 by_cases hab : a = b
 ·subst hab
  rw [if_neg (by simp)]
  rcases op_bin h with rfl | rfl | rfl | rfl | rfl | rfl | rfl | rfl | rfl | rfl | rfl | rfl | rfl <;> rcases kd_three hk with rfl | rfl | rfl
  all_goals
   go_enter Tryz.func208, Tryz.ntmps208
   go_wp2
   go_ret
   exact ⟨rfl, rfl⟩
 ·rw [if_pos hab]
  have h' := bne_iff_ne.2 hab
  clear hab
  go_enter Tryz.func208, Tryz.ntmps208
  go_wp2
  go_ret
  exact ⟨rfl, rfl⟩
end Go.Proofs.YtkjkcgbmaojpiaaGreatDoor.Kd
namespace Go.Proofs.YtkjkcgbmaojpiaaGreatDoor.Kd
open Go.RowKit
def isV (n : List UInt8) (v : VM) : Bool := decide (v.nm = n)
theorem called_any (x : VM) (X N : ByteArray) (g : Nat) (w : World) (hg : g < w.heap.size) (hN : w.cell? ⟨g, 0, none⟩ = some (.string N)) :
  Calls Tryz.prog 244 #[.agg #[.string X, .int .i64 x.kd, .int .i64 x.lo, .int .i64 x.hi, .int .i64 x.ik, .int .i64 x.ia, .int .i64 x.ib], .pointer (some ⟨g, 0, none⟩)] w fun e w' => e = .returned (.bool (decide (X.data.toList = N.data.toList))) ∧ Below w.heap.size w w' := by
 have HB : Hid (∀ W : World, ∀ o : Obj, Below W.heap.size W (W.alloc o)) := fun W o => (Below.refl _ _).alloc (Nat.le_refl _) o
 have hne0 : w.heap.size ≠ g := by omega
 by_cases he : X.data.toList = N.data.toList
 ·obtain rfl := str_eq he
  rw [decide_eq_true he]
  clear he
  go_enter Tryz.func244, Tryz.ntmps244
  go_wp2
  go_ret
  exact ⟨rfl, HB.out _ _⟩
 ·have hne := str_ne he
  have hne' := str_ne (Ne.symm he)
  rw [decide_eq_false he]
  clear he
  go_enter Tryz.func244, Tryz.ntmps244
  go_wp2
  go_ret
  exact ⟨rfl, HB.out _ _⟩
set_option maxHeartbeats 1000000 in
theorem varIndex_any (v : Value) (vs : List VM) (N : ByteArray) (g : Nat) (w : World) (hR : RdV w v vs) (hl : vs.length ≤ 4611686018427387904) (hg : g < w.heap.size) (hN : w.cell? ⟨g, 0, none⟩ = some (.string N)) :
  Calls Tryz.prog 163 #[v, .func (.func 244) #[] #[.pointer (some ⟨g, 0, none⟩)]] w fun e w' => e = .returned (.int .i64 (ixP (isV N.data.toList) vs 0)) ∧ Below w.heap.size w w' := by
 obtain ⟨A, c, rfl⟩ := hR.form
 have HR := Lib.hid hR; clear hR
 obtain ⟨n, hn⟩ : ∃ n, vs.length = n := ⟨_, rfl⟩
 have HN := Lib.hid hn
 rw [hn] at hl HR ⊢
 clear hn
 have HNM := Lib.hid hN; clear hN
 go_enter Tryz.func163, Tryz.ntmps163
 go_wp2
 go_loopw [4, 5, 8] (fun x4 x5 i wr => x4 = .int .i64 0 ∧ (x5 = .int .i64 0 ∨ True) ∧ ∃ k : Nat, k ≤ n ∧ i = .int .i64 k ∧ Hid (ixP (isV N.data.toList) (vs.drop k) k = ixP (isV N.data.toList) vs 0) ∧ Below w.heap.size w wr) (fun _ _ i _ => n - (intOf i).toNat)
 case atStart => exact ⟨rfl, Or.inr trivial, 0, by omega, rfl, rfl, Below.refl _ _⟩
 case round =>
  obtain ⟨rfl, _, k, hk, rfl, HI, hb⟩ := hrel
  have HBL := Lib.hid hb
  by_cases hkn : k < n
  ·have HR' := HR.out.below hb
   obtain ⟨b, o, rfl, _, hc0, hc1, hc2, hc3, hc4, hc5, hc6⟩ := HR'.at_ (k := k) (by rw [HN.out]; exact hkn)
   have hst := ix_step (p := isV N.data.toList) (l := vs) (k := k) (by rw [HN.out]; exact hkn)
   rw [HI.out] at hst
   obtain ⟨X, hX, hXl⟩ := bstr_some (vs[k]'(by rw [HN.out]; exact hkn)).nm
   have hiv : isV N.data.toList (vs[k]'(by rw [HN.out]; exact hkn)) = decide (X.data.toList = N.data.toList) := by rw [hXl]; rfl
   rw [hiv] at hst
   rw [hX] at hc0
   generalize vs[k]'(by rw [HN.out]; exact hkn) = x at *
   have HC := Lib.hid (called_any x X N g wr (by have := HBL.out.size; omega) ((hb.cell hg).trans HNM.out))
   clear hX hXl hb HR' hiv
   by_cases he : X.data.toList = N.data.toList
   ·have hr : ixP (isV N.data.toList) vs 0 = k := by rw [hst, if_pos (by simp [he])]
    have HRR := Lib.hid hr
    have HE := Lib.hid (decide_eq_true he)
    clear hst hr he HI
    go_wp2_with fail
    refine HC.out.mono ?_
    rintro e w1 ⟨rfl, hb1⟩
    rw [HE.out]
    have HB1 := Lib.hid (HBL.out.trans (hb1.mono HBL.out.size)); clear hb1
    go_wp2
    go_ret
    exact ⟨ret_int HRR.out.symm, HB1.out⟩
   ·have hr : ixP (isV N.data.toList) (vs.drop (k + 1)) (k + 1) = ixP (isV N.data.toList) vs 0 := by rw [hst, if_neg (by simp [he])]
    have HRR := Lib.hid hr
    have HE := Lib.hid (decide_eq_false he)
    clear hst hr he HI
    go_wp2_with fail
    refine HC.out.mono ?_
    rintro e w1 ⟨rfl, hb1⟩
    rw [HE.out]
    have HB1 := Lib.hid (HBL.out.trans (hb1.mono HBL.out.size)); clear hb1
    go_wp2
    go_roundw
    case rel => exact ⟨rfl, Or.inr trivial, k + 1, by omega, by go_num, HRR.out, HB1.out⟩
    case measure => simp [intOf]; omega
  ·have hr : ixP (isV N.data.toList) vs 0 = -1 := by rw [← HI.out, ix_end (by rw [HN.out]; exact hkn)]
   have HRR := Lib.hid hr
   clear hr HI
   go_wp2
   go_ret
   exact ⟨ret_int HRR.out.symm, HBL.out⟩
end Go.Proofs.YtkjkcgbmaojpiaaGreatDoor.Kd
namespace Go.Proofs.YtkjkcgbmaojpiaaGreatDoor.Kd
open Go.RowKit
theorem varK_ix (vs : List VM) (n : List UInt8) : (ixP (isV n) vs 0 = -1 ∧ varK vs n = (0, 2)) ∨ ∃ j, ∃ h : j < vs.length, ixP (isV n) vs 0 = (j : Int) ∧ varK vs n = if 1 ≤ vs[j].kd ∧ vs[j].kd ≤ 3 then (vs[j].kd, 0) else (0, 8) := by
 unfold varK
 rcases ix_find (isV n) vs 0 with ⟨h1, h2⟩ | ⟨j, hj, h1, h2⟩
 ·refine Or.inl ⟨h1, ?_⟩
  have : vs.find? (fun v => decide (v.nm = n)) = none := h2
  rw [this]
 ·refine Or.inr ⟨j, hj, by rw [h1]; simp, ?_⟩
  have : vs.find? (fun v => decide (v.nm = n)) = some vs[j] := h2
  rw [this]
theorem ret_pair {k : IntKind} {a b : Int} {p : Int × Int} (h : p = (a, b)) : Ending.returned (.tuple #[.int k a, .int k b]) = .returned (.tuple #[.int k p.1, .int k p.2]) := by rw [h]
set_option maxHeartbeats 1000000 in
theorem variable_any (v : Value) (vs : List VM) (N : ByteArray) (w : World) (hR : RdV w v vs) (hl : vs.length ≤ 4611686018427387904) :
  Calls Tryz.prog 205 #[.string N, v] w fun e w' => e = .returned (.tuple #[.int .i64 (varK vs N.data.toList).1, .int .i64 (varK vs N.data.toList).2]) ∧ Below w.heap.size w w' := by
 have hW : Below w.heap.size w (w.alloc (.cells #[.string N] 9)) := (Below.refl _ _).alloc (Nat.le_refl _) _
 have hsz : w.heap.size < (w.alloc (.cells #[.string N] 9)).heap.size := by simp
 have hcl : (w.alloc (.cells #[.string N] 9)).cell? ⟨w.heap.size, 0, none⟩ = some (.string N) := by simp
 have HI := Lib.hid (varIndex_any v vs N w.heap.size (w.alloc (.cells #[.string N] 9)) (hR.below hW) hl hsz hcl)
 have HW := Lib.hid hW
 obtain ⟨A, c, rfl⟩ := hR.form
 have HR := Lib.hid hR
 clear hR hsz hcl hW
 rcases varK_ix vs N.data.toList with ⟨h1, h2⟩ | ⟨j, hj, h1, h2⟩
 ·have H1 := Lib.hid h1; have H2 := Lib.hid h2
  clear h1 h2
  go_enter Tryz.func205, Tryz.ntmps205
  go_wp2_with fail
  go_in
  go_wp2_with fail
  refine HI.out.mono ?_
  rintro e w1 ⟨rfl, hb1⟩
  rw [H1.out]
  have HB1 := Lib.hid (HW.out.trans (hb1.mono HW.out.size)); clear hb1
  go_wp2
  go_ret2
  exact ⟨ret_pair H2.out, HB1.out⟩
 ·obtain ⟨x, hx⟩ : ∃ x, vs[j] = x := ⟨_, rfl⟩
  rw [hx] at h2
  have H1 := Lib.hid h1; have H2 := Lib.hid h2
  have hk : ((1 ≤ x.kd ∧ x.kd ≤ 3) ∨ x.kd < 1) ∨ 3 < x.kd := by omega
  obtain ⟨b, o, rfl, hbw, hc0, hc1, hcx⟩ := HR.out.at_ hj
  clear hc0 hcx
  rw [hx] at hc1
  have hjj : j < vs.length := hj
  clear h1 h2
  have HC := Lib.hid hc1; clear hc1
  clear hx hj
  generalize x.kd = kd at *
  rcases hk with (⟨hk1, hk2⟩ | hk) | hk
  ·have hv : varK vs N.data.toList = (kd, 0) := by rw [H2.out, if_pos ⟨hk1, hk2⟩]
   have HV := Lib.hid hv
   have n1 : decide (kd < 1) = false := decide_eq_false (by omega)
   have n2 : decide (3 < kd) = false := decide_eq_false (by omega)
   clear hv
   go_enter Tryz.func205, Tryz.ntmps205
   go_wp2_with fail
   go_in
   go_wp2_with fail
   refine HI.out.mono ?_
   rintro e w1 ⟨rfl, hb1⟩
   rw [H1.out]
   have hcc := ((HW.out.trans (hb1.mono HW.out.size)).cell hbw).trans HC.out
   have HB1 := Lib.hid (HW.out.trans (hb1.mono HW.out.size)); clear hb1
   go_wp2
   go_ret2
   exact ⟨ret_pair HV.out, HB1.out⟩
  all_goals
   have hv : varK vs N.data.toList = (0, 8) := by rw [H2.out, if_neg (by omega)]
   have HV := Lib.hid hv
   clear hv
   go_enter Tryz.func205, Tryz.ntmps205
   go_wp2_with fail
   go_in
   go_wp2_with fail
   refine HI.out.mono ?_
   rintro e w1 ⟨rfl, hb1⟩
   rw [H1.out]
   have hcc := ((HW.out.trans (hb1.mono HW.out.size)).cell hbw).trans HC.out
   have HB1 := Lib.hid (HW.out.trans (hb1.mono HW.out.size)); clear hb1
   go_wp2
   go_ret2
   exact ⟨ret_pair HV.out, HB1.out⟩
end Go.Proofs.YtkjkcgbmaojpiaaGreatDoor.Kd
namespace Go.Proofs.YtkjkcgbmaojpiaaGreatDoor.Kd
open Go.RowKit
def kv (ks : List Int) : List Value := ks.map (Value.int .i64)
theorem kv_length (ks : List Int) : (kv ks).length = ks.length := by simp [kv]
theorem leaf_alone {vs : List VM} {ss : List (List UInt8)} {c : CM} (h5 : c.op ≠ 5) (h6 : c.op = 6 → c.nm ∈ ss) : leafK vs ss c = (aloneK c.op, 0) := by
 unfold leafK aloneK
 by_cases h1 : c.op = 1
 ·rw [if_pos h1, if_pos h1]
 ·by_cases h2 : c.op = 2
  ·rw [if_neg h1, if_neg h1, if_pos h2, if_pos h2]
  ·rw [if_neg h1, if_neg h1, if_neg h2, if_neg h2, if_neg h5, if_neg (fun e => e.2 (h6 e.1))]
theorem alone_pos (o : Int) : aloneK o ≠ 0 := by
 unfold aloneK
 by_cases h1 : o = 1
 ·rw [if_pos h1]; decide
 ·by_cases h2 : o = 2
  ·rw [if_neg h1, if_pos h2]; decide
  ·rw [if_neg h1, if_neg h2]; decide
set_option maxHeartbeats 2000000 in
theorem made0_any (op a : Int) (X : ByteArray) (u v s : Value) (vs : List VM) (ss : List (List UInt8)) (w : World) (hop : 1 ≤ op ∧ op ≤ 6) (A : Option Addr) (c : Nat) (hu : u = .slice A 0 c) (hR : RdV w v vs) (hl : vs.length ≤ 4611686018427387904) (hS : RdW w s ss) (hsl : ss.length ≤ 4611686018427387904) :
  Calls Tryz.prog 187 #[.agg #[.int .i64 op, .int .i64 a, .string X], u, v, s] w fun e w' => e = .returned (.tuple #[.int .i64 (leafK vs ss ⟨op, a, X.data.toList⟩).1, .int .i64 (leafK vs ss ⟨op, a, X.data.toList⟩).2]) ∧ Below w.heap.size w w' := by
 subst hu
 have HB : Hid (∀ o : Obj, Below w.heap.size w (w.alloc o)) := fun o => (Below.refl _ _).alloc (Nat.le_refl _) o
 have HV : Hid (∀ o : Obj, RdV (w.alloc o) v vs) := fun o => hR.below (HB.out o)
 have HS : Hid (∀ o : Obj, RdW (w.alloc o) s ss) := fun o => hS.below (HB.out o)
 have HF := Lib.hid (fun W h => variable_any v vs X W h hl)
 have HH := Lib.hid (fun W h => strContains_any s ss X W h (by omega))
 obtain ⟨V, cv, rfl⟩ := hR.form
 obtain ⟨S, cs, rfl⟩ := hS.form
 clear hR hS
 by_cases h5 : op = 5
 ·subst h5
  rw [show leafK vs ss ⟨5, a, X.data.toList⟩ = varK vs X.data.toList from rfl]
  go_enter Tryz.func187, Tryz.ntmps187
  go_wp2_with fail
  refine (HF.out _ (HV.out _)).mono ?_
  rintro e w1 ⟨rfl, hb1⟩
  have HB1 := Lib.hid ((HB.out _).trans (hb1.mono (HB.out _).size)); clear hb1
  go_wp2
  go_ret2
  exact ⟨rfl, HB1.out⟩
 ·have t5 := int_ne h5
  by_cases h6 : op = 6
  ·subst h6
   by_cases hm : X.data.toList ∈ ss
   ·have HL := Lib.hid (leaf_alone (vs := vs) (ss := ss) (c := ⟨6, a, X.data.toList⟩) h5 (fun _ => hm))
    have HM := Lib.hid (decide_eq_true hm)
    clear hm h5
    go_enter Tryz.func187, Tryz.ntmps187
    go_wp2_with fail
    refine (HH.out _ (HS.out _)).mono ?_
    rintro e w1 ⟨rfl, rfl⟩
    rw [HM.out]
    go_wp2_with fail
    refine (alone_any _ _ (by decide)).mono ?_
    rintro e w1 ⟨rfl, rfl⟩
    rw [show aloneK 6 = 2 from rfl]
    go_wp2
    go_ret2
    exact ⟨ret_pair HL.out, HB.out _⟩
   ·have HL : Hid (leafK vs ss ⟨6, a, X.data.toList⟩ = (0, 2)) := by
     show leafK _ _ _ = _
     unfold leafK; simp [hm]
    have HM := Lib.hid (decide_eq_false hm)
    clear hm h5
    go_enter Tryz.func187, Tryz.ntmps187
    go_wp2_with fail
    refine (HH.out _ (HS.out _)).mono ?_
    rintro e w1 ⟨rfl, rfl⟩
    rw [HM.out]
    go_wp2
    go_ret2
    exact ⟨ret_pair HL.out, HB.out _⟩
  ·have t6 := int_ne h6
   have HL := Lib.hid (leaf_alone (vs := vs) (ss := ss) (c := ⟨op, a, X.data.toList⟩) h5 (fun e => absurd e h6))
   have ha := alone_pos op
   have ha' := int_ne ha
   have HAL := Lib.hid (fun W => alone_any op W hop)
   clear h5 h6 ha hop
   go_enter Tryz.func187, Tryz.ntmps187
   go_wp2_with fail
   refine (HAL.out _).mono ?_
   rintro e w1 ⟨rfl, rfl⟩
   go_wp2
   go_ret2
   exact ⟨ret_pair HL.out, HB.out _⟩
theorem errK_zero {k : Int} (h : k = 0) : errK k = (0, 8) := by unfold errK; rw [if_pos h]
theorem errK_some {k : Int} (h : k ≠ 0) : errK k = (k, 0) := by unfold errK; rw [if_neg h]
set_option maxHeartbeats 2000000 in
theorem made1_any (op a : Int) (X : ByteArray) (u v s : Value) (k : Int) (w : World) (hop : 7 ≤ op ∧ op ≤ 10) (hk : 1 ≤ k ∧ k ≤ 3) (b o c : Nat) (hu : u = .slice (some ⟨b, o, none⟩) 1 c) (hc : w.cell? ⟨b, o, none⟩ = some (.int .i64 k)) (hv : ∃ A n c, v = .slice A n c) (hs : ∃ A n c, s = .slice A n c) :
  Calls Tryz.prog 187 #[.agg #[.int .i64 op, .int .i64 a, .string X], u, v, s] w fun e w' => e = .returned (.tuple #[.int .i64 (errK (unK op k)).1, .int .i64 (errK (unK op k)).2]) ∧ Below w.heap.size w w' := by
 subst hu
 obtain ⟨A1, n1, c1, rfl⟩ := hv
 obtain ⟨A2, n2, c2, rfl⟩ := hs
 have HB : Hid (∀ (o : Obj) n, Below w.heap.size w ((w.alloc o).drewN n)) := fun o n => ((Below.refl _ _).alloc (Nat.le_refl _) o).trans ⟨rfl, rfl, rfl, Nat.le_refl _, fun _ _ => rfl⟩
 have hca : (w.alloc (.cells #[.int .i64 op, .int .i64 a, .string X] 144)).cell? ⟨b, o, none⟩ = some (.int .i64 k) := (World.cell?_alloc_lt w _ _ (cell_lt hc)).trans hc
 have t5 := int_ne (a := op) (b := 5) (by omega)
 have t6 := int_ne (a := op) (b := 6) (by omega)
 clear hc
 have HAH := Lib.hid (fun W => ahead_any op k W hop hk)
 clear hop hk
 by_cases h0 : unK op k = 0
 ·have HE := Lib.hid (errK_zero h0)
  have HZ := Lib.hid h0
  clear h0
  go_enter Tryz.func187, Tryz.ntmps187
  go_wp2_with fail
  go_quiet ((go_at_call 207; exact Calls.quiet_of_same ((HAH.out _).mono fun _ _ h => ⟨h.1, h.2.symm⟩)))
  rw [HZ.out]
  go_wp2
  go_ret2
  exact ⟨ret_pair HE.out, HB.out _ _⟩
 ·have HE := Lib.hid (errK_some h0)
  have t0 := int_ne h0
  clear h0
  go_enter Tryz.func187, Tryz.ntmps187
  go_wp2_with fail
  go_quiet ((go_at_call 207; exact Calls.quiet_of_same ((HAH.out _).mono fun _ _ h => ⟨h.1, h.2.symm⟩)))
  go_wp2
  go_ret2
  exact ⟨ret_pair HE.out, HB.out _ _⟩
set_option maxHeartbeats 2000000 in
theorem made2_any (op a : Int) (X : ByteArray) (u v s : Value) (k l : Int) (w : World) (hop : 11 ≤ op ∧ op ≤ 23) (hk : 1 ≤ k ∧ k ≤ 3) (b o c : Nat) (hu : u = .slice (some ⟨b, o, none⟩) 2 c) (hc : w.cell? ⟨b, o, none⟩ = some (.int .i64 k)) (hd : w.cell? ⟨b, o + 1, none⟩ = some (.int .i64 l)) (hv : ∃ A n c, v = .slice A n c) (hs : ∃ A n c, s = .slice A n c) :
  Calls Tryz.prog 187 #[.agg #[.int .i64 op, .int .i64 a, .string X], u, v, s] w fun e w' => e = .returned (.tuple #[.int .i64 (joinK op k l).1, .int .i64 (joinK op k l).2]) ∧ Below w.heap.size w w' := by
 subst hu
 obtain ⟨A1, n1, c1, rfl⟩ := hv
 obtain ⟨A2, n2, c2, rfl⟩ := hs
 have HB : Hid (∀ (o : Obj) n, Below w.heap.size w ((w.alloc o).drewN n)) := fun o n => ((Below.refl _ _).alloc (Nat.le_refl _) o).trans ⟨rfl, rfl, rfl, Nat.le_refl _, fun _ _ => rfl⟩
 have hca : (w.alloc (.cells #[.int .i64 op, .int .i64 a, .string X] 144)).cell? ⟨b, o, none⟩ = some (.int .i64 k) := (World.cell?_alloc_lt w _ _ (cell_lt hc)).trans hc
 have hda : (w.alloc (.cells #[.int .i64 op, .int .i64 a, .string X] 144)).cell? ⟨b, o + 1, none⟩ = some (.int .i64 l) := (World.cell?_alloc_lt w _ _ (cell_lt hd)).trans hd
 have t5 := int_ne (a := op) (b := 5) (by omega)
 have t6 := int_ne (a := op) (b := 6) (by omega)
 clear hc hd
 have HAH := Lib.hid (fun W => between_any op k l W hop hk)
 have HJ : Hid (joinK op k l = errK (if k ≠ l then 0 else binK op k)) := by
  show joinK op k l = _
  unfold joinK
  by_cases h : k = l
  ·rw [if_neg (by simp [h]), if_neg (by simp [h])]
  ·rw [if_pos h, if_pos h]; rfl
 clear hop hk
 generalize (if k ≠ l then 0 else binK op k) = r at *
 by_cases h0 : r = 0
 ·have HE := Lib.hid (HJ.out.trans (errK_zero h0))
  subst h0
  go_enter Tryz.func187, Tryz.ntmps187
  go_wp2_with fail
  go_quiet ((go_at_call 208; exact Calls.quiet_of_same ((HAH.out _).mono fun _ _ h => ⟨h.1, h.2.symm⟩)))
  go_wp2
  go_ret2
  exact ⟨ret_pair HE.out, HB.out _ _⟩
 ·have HE := Lib.hid (HJ.out.trans (errK_some h0))
  have t0 := int_ne h0
  clear h0
  go_enter Tryz.func187, Tryz.ntmps187
  go_wp2_with fail
  go_quiet ((go_at_call 208; exact Calls.quiet_of_same ((HAH.out _).mono fun _ _ h => ⟨h.1, h.2.symm⟩)))
  go_wp2
  go_ret2
  exact ⟨ret_pair HE.out, HB.out _ _⟩
end Go.Proofs.YtkjkcgbmaojpiaaGreatDoor.Kd
