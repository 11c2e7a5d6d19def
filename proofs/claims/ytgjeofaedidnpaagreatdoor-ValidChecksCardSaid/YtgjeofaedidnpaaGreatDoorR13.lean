/- Own texts, joined: Xd, Uc, Ud, Ue, Uq. -/
import Derived.Test.YtgjeofaedidnpaaGreatDoorR10
import Derived.RangeFuncNested
import Derived.RangeFuncBound
import Derived.RangeFuncCalls
import Derived.RangeFuncLeaves
import Derived.RangeFuncBox
import Derived.Shelf.Abstract
import Derived.Shelf.RegionOpen
import Derived.WalkKit
import Derived.OwnWalkIn
import Derived.TacticsInMore
import Derived.LoopNIn
import Derived.LoopIn
import Derived.Sort.BigQuietIn
import Derived.Test.YtgjeofaedidnpaaGreatDoorProg
namespace Go.Proofs.YtgjeofaedidnpaaGreatDoor.Ch.Vd
open Go.RowKit
theorem box_v (w : World) (x0 x1 x2 x3 x4 x5 x6 : Value) : ∃ w1, w1 = w.alloc (.cells #[x0, x1, x2, x3, x4, x5, x6] 51) /\ Below w.heap.size w w1 /\ w1.heap.size = w.heap.size + 1 /\
 w1.cell? ⟨w.heap.size, 0, none⟩ = some x0 /\ w1.cell? ⟨w.heap.size, 1, none⟩ = some x1 /\ w1.cell? ⟨w.heap.size, 2, none⟩ = some x2 /\ w1.cell? ⟨w.heap.size, 3, none⟩ = some x3 /\ w1.cell? ⟨w.heap.size, 4, none⟩ = some x4 /\ w1.cell? ⟨w.heap.size, 5, none⟩ = some x5 /\ w1.cell? ⟨w.heap.size, 6, none⟩ = some x6 :=
 ⟨_, rfl, (Below.refl _ _).alloc (Nat.le_refl _) _, by simp, by simp, by simp, by simp, by simp, by simp, by simp, by simp⟩
abbrev vaA (X : ByteArray) (v : VM) : Value := .agg #[.string X, .int .i64 v.kd, .int .i64 v.lo, .int .i64 v.hi, .int .i64 v.ik, .int .i64 v.ia, .int .i64 v.ib]
set_option maxRecDepth 100000 in
theorem isBounded_any (v : VM) (X : ByteArray) (w : World) : Calls Tryz.prog 89 #[vaA X v] w fun e w' => e = .returned (.bool (bndB v)) /\ Below w.heap.size w w' := by
 obtain ⟨nm, kd, lo, hi, ik, ia, ib⟩ := v;unfold vaA;show Calls _ _ #[.agg #[.string X, .int .i64 kd, .int .i64 lo, .int .i64 hi, .int .i64 ik, .int .i64 ia, .int .i64 ib]] w _;obtain ⟨w1, hw1, hb1, hz1, d0, d1, d2, d3, d4, d5, d6⟩ := box_v w (.string X) (.int .i64 kd) (.int .i64 lo) (.int .i64 hi) (.int .i64 ik) (.int .i64 ia) (.int .i64 ib);have HW := Lib.hid hw1; have HB := Lib.hid hb1;clear hw1 hb1;by_cases k2 : kd = 2
 ·subst k2;have hr : bndB ⟨nm, 2, lo, hi, ik, ia, ib⟩ = (decide (lo = 0) && decide (hi = 1)) := rfl;have HR := Lib.hid hr; clear hr;by_cases h0 : lo = 0
  ·subst h0;by_cases h1 : hi = 1
   ·subst h1
    go_enter Tryz.func89, Tryz.ntmps89
    go_wp2_with fail
    rw [<- HW.out];go_wp2;go_ret;exact ⟨ret_bool (by rw [HR.out]; rfl), HB.out⟩
   ·have q1 := int_ne h1
    go_enter Tryz.func89, Tryz.ntmps89
    go_wp2_with fail
    rw [<- HW.out];go_wp2;go_ret;exact ⟨ret_bool (by rw [HR.out, decide_eq_false h1]; rfl), HB.out⟩
  ·have q0 := int_ne h0
   go_enter Tryz.func89, Tryz.ntmps89
   go_wp2_with fail
   rw [<- HW.out];go_wp2;go_ret;exact ⟨ret_bool (by rw [HR.out, decide_eq_false h0]; rfl), HB.out⟩
 ·have e2 := int_ne k2;by_cases k3 : kd = 3
  ·subst k3;have hr : bndB ⟨nm, 3, lo, hi, ik, ia, ib⟩ = (decide (-1048576 <= lo) && (decide (lo <= hi) && decide (hi <= 1048576))) := rfl;have HR := Lib.hid hr; clear hr;by_cases h0 : -1048576 <= lo
   ·have q0 : decide (-1048576 <= lo) = true := decide_eq_true h0;clear h0;by_cases h1 : lo <= hi
    ·have q1 : decide (lo <= hi) = true := decide_eq_true h1;clear h1
     skip
     go_enter Tryz.func89, Tryz.ntmps89
     go_wp2_with fail
     rw [<- HW.out];go_wp2;go_ret;exact ⟨ret_bool (by rw [HR.out]; simp [*]), HB.out⟩
    ·have q1 : decide (lo <= hi) = false := decide_eq_false h1;clear h1
     go_enter Tryz.func89, Tryz.ntmps89
     go_wp2_with fail
     rw [<- HW.out];go_wp2;go_ret;exact ⟨ret_bool (by rw [HR.out]; simp [*]), HB.out⟩
   ·have q0 : decide (-1048576 <= lo) = false := decide_eq_false h0;clear h0
    go_enter Tryz.func89, Tryz.ntmps89
    go_wp2_with fail
    rw [<- HW.out];go_wp2;go_ret;exact ⟨ret_bool (by rw [HR.out]; simp [*]), HB.out⟩
  ·have e3 := int_ne k3;have hr : bndB ⟨nm, kd, lo, hi, ik, ia, ib⟩ = (decide (-1099511627776 <= lo) && (decide (lo <= hi) && decide (hi <= 1099511627776))) := by unfold bndB; rw [if_neg k2, if_neg k3]
   have HR := Lib.hid hr; clear hr k2 k3;by_cases h0 : -1099511627776 <= lo
   ·have q0 : decide (-1099511627776 <= lo) = true := decide_eq_true h0;clear h0;by_cases h1 : lo <= hi
    ·have q1 : decide (lo <= hi) = true := decide_eq_true h1;clear h1
     skip
     go_enter Tryz.func89, Tryz.ntmps89
     go_wp2_with fail
     rw [<- HW.out];go_wp2;go_ret;exact ⟨ret_bool (by rw [HR.out]; simp [*]), HB.out⟩
    ·have q1 : decide (lo <= hi) = false := decide_eq_false h1;clear h1
     go_enter Tryz.func89, Tryz.ntmps89
     go_wp2_with fail
     rw [<- HW.out];go_wp2;go_ret;exact ⟨ret_bool (by rw [HR.out]; simp [*]), HB.out⟩
   ·have q0 : decide (-1099511627776 <= lo) = false := decide_eq_false h0;clear h0
    go_enter Tryz.func89, Tryz.ntmps89
    go_wp2_with fail
    rw [<- HW.out];go_wp2;go_ret;exact ⟨ret_bool (by rw [HR.out]; simp [*]), HB.out⟩
set_option maxRecDepth 100000 in
theorem mayHold_any (v : VM) (X : ByteArray) (x : VA) (w : World) : Calls Tryz.prog 91 #[vaA X v, .agg #[.int .i64 x.kd, .int .i64 x.a, .int .i64 x.b]] w fun e w' => e = .returned (.bool (holdB v x)) /\ Below w.heap.size w w' := by
 obtain ⟨nm, kd, lo, hi, ik, ia, ib⟩ := v;obtain ⟨xk, a, b⟩ := x;unfold vaA;show Calls _ _ #[.agg #[.string X, .int .i64 kd, .int .i64 lo, .int .i64 hi, .int .i64 ik, .int .i64 ia, .int .i64 ib], .agg #[.int .i64 xk, .int .i64 a, .int .i64 b]] w _;obtain ⟨w1, hw1⟩ : ∃ W, W = (w.alloc (.cells #[.string X, .int .i64 kd, .int .i64 lo, .int .i64 hi, .int .i64 ik, .int .i64 ia, .int .i64 ib] 51)).alloc (.cells #[.int .i64 xk, .int .i64 a, .int .i64 b] 49) := ⟨_, rfl⟩
 have hb1 : Below w.heap.size w w1 := hw1 ▸ ((Below.refl _ _).alloc (Nat.le_refl _) _).alloc (by simp) _;have d1 : w1.cell? ⟨w.heap.size, 1, none⟩ = some (.int .i64 kd) := by rw [hw1]; simp
 have d2 : w1.cell? ⟨w.heap.size, 2, none⟩ = some (.int .i64 lo) := by rw [hw1]; simp
 have d3 : w1.cell? ⟨w.heap.size, 3, none⟩ = some (.int .i64 hi) := by rw [hw1]; simp
 have g1 : w1.cell? ⟨w.heap.size + 1, 1, none⟩ = some (.int .i64 a) := by rw [hw1]; simp
 have g2 : w1.cell? ⟨w.heap.size + 1, 2, none⟩ = some (.int .i64 b) := by rw [hw1]; simp
 have hr : holdB ⟨nm, kd, lo, hi, ik, ia, ib⟩ ⟨xk, a, b⟩ = ((decide (lo <= a) && decide (a <= hi)) && (decide (kd ≠ 3) || (decide (lo <= b) && decide (b <= hi)))) := rfl;have HR := Lib.hid hr; have HW := Lib.hid hw1; have HB := Lib.hid hb1;clear hr hw1 hb1;by_cases h1 : a < lo
 ·have q1 : decide (a < lo) = true := decide_eq_true h1;have z1 : decide (lo <= a) = false := decide_eq_false (by omega);clear h1
  go_enter Tryz.func91, Tryz.ntmps91
  go_wp2_with fail
  rw [<- HW.out];go_wp2;go_ret;exact ⟨ret_bool (by rw [HR.out]; simp [*]), HB.out⟩
 ·have q1 : decide (a < lo) = false := decide_eq_false h1;have z1 : decide (lo <= a) = true := decide_eq_true (by omega);clear h1;by_cases h2 : hi < a
  ·have q2 : decide (hi < a) = true := decide_eq_true h2;have z2 : decide (a <= hi) = false := decide_eq_false (by omega);clear h2
   go_enter Tryz.func91, Tryz.ntmps91
   go_wp2_with fail
   rw [<- HW.out];go_wp2;go_ret;exact ⟨ret_bool (by rw [HR.out]; simp [*]), HB.out⟩
  ·have q2 : decide (hi < a) = false := decide_eq_false h2;have z2 : decide (a <= hi) = true := decide_eq_true (by omega);clear h2;by_cases h3 : kd = 3
   ·subst h3;by_cases h4 : lo <= b
    ·have q4 : decide (lo <= b) = true := decide_eq_true h4;clear h4
     go_enter Tryz.func91, Tryz.ntmps91
     go_wp2_with fail
     rw [<- HW.out];go_wp2;go_ret;exact ⟨ret_bool (by rw [HR.out]; simp [*]), HB.out⟩
    ·have q4 : decide (lo <= b) = false := decide_eq_false h4;clear h4
     go_enter Tryz.func91, Tryz.ntmps91
     go_wp2_with fail
     rw [<- HW.out];go_wp2;go_ret;exact ⟨ret_bool (by rw [HR.out]; simp [*]), HB.out⟩
   ·have q3 : (kd != 3) = true := bne_iff_ne.2 h3;have z3 : decide (kd ≠ 3) = true := decide_eq_true h3;clear h3
    go_enter Tryz.func91, Tryz.ntmps91
    go_wp2_with fail
    rw [<- HW.out];go_wp2;go_ret;exact ⟨ret_bool (by rw [HR.out, z1, z2, z3]; rfl), HB.out⟩
set_option maxRecDepth 100000 in
set_option maxHeartbeats 4000000 in
theorem variable_any (v : VM) (X : ByteArray) (w : World) : Calls Tryz.prog 47 #[vaA X v] w fun e w' => e = .returned (.int .i64 (varE v)) /\ Below w.heap.size w w' := by
 have HBO := Lib.hid (isBounded_any v X);have HRV := Lib.hid (fun W => evRight_any (inV v) W);have HMH := Lib.hid (fun W => mayHold_any v X (inV v) W);obtain ⟨nm, kd, lo, hi, ik, ia, ib⟩ := v;have hr : varE ⟨nm, kd, lo, hi, ik, ia, ib⟩ = if ¬ (1 <= kd /\ kd <= 3) \/ ik ≠ kd then 8 else unE (bndB ⟨nm, kd, lo, hi, ik, ia, ib⟩ && (rightV ⟨ik, ia, ib⟩ && holdB ⟨nm, kd, lo, hi, ik, ia, ib⟩ ⟨ik, ia, ib⟩)) 5 := rfl
 have HR := Lib.hid hr; clear hr;unfold vaA inV at *
 simp only at *
 generalize bndB ⟨nm, kd, lo, hi, ik, ia, ib⟩ = b1 at *
 generalize rightV ⟨ik, ia, ib⟩ = b2 at *
 generalize holdB ⟨nm, kd, lo, hi, ik, ia, ib⟩ ⟨ik, ia, ib⟩ = b3 at *
 obtain ⟨w1, hw1, hb1, hz1, d0, d1, d2, d3, d4, d5, d6⟩ := box_v w (.string X) (.int .i64 kd) (.int .i64 lo) (.int .i64 hi) (.int .i64 ik) (.int .i64 ia) (.int .i64 ib);have HW := Lib.hid hw1; have HB := Lib.hid hb1;clear hw1 hb1;by_cases h1 : kd < 1
 ·have q1 : decide (kd < 1) = true := decide_eq_true h1;have hv : varE ⟨nm, kd, lo, hi, ik, ia, ib⟩ = 8 := by rw [HR.out, if_pos (Or.inl (by omega))]
  have HV := Lib.hid hv; clear hv h1
  go_enter Tryz.func47, Tryz.ntmps47
  go_wp2_with fail
  rw [<- HW.out];go_wp2;go_ret;exact ⟨ret_int HV.out.symm, HB.out⟩
 have q1 : decide (kd < 1) = false := decide_eq_false h1;by_cases h2 : 3 < kd
 ·have q2 : decide (3 < kd) = true := decide_eq_true h2;have hv : varE ⟨nm, kd, lo, hi, ik, ia, ib⟩ = 8 := by rw [HR.out, if_pos (Or.inl (by omega))]
  have HV := Lib.hid hv; clear hv h1 h2
  go_enter Tryz.func47, Tryz.ntmps47
  go_wp2_with fail
  rw [<- HW.out];go_wp2;go_ret;exact ⟨ret_int HV.out.symm, HB.out⟩
 have q2 : decide (3 < kd) = false := decide_eq_false h2;by_cases h3 : ik = kd
 ·subst h3;have hv : varE ⟨nm, ik, lo, hi, ik, ia, ib⟩ = unE (b1 && (b2 && b3)) 5 := by rw [HR.out, if_neg (fun h => by rcases h with h | h; exact h ⟨by omega, by omega⟩; exact h rfl)]
  have HV := Lib.hid hv; clear hv h1 h2;have q3 : (ik != ik) = false := by simp
  have HT : Hid (∀ W, Below w1.heap.size w1 W -> W.cell? ⟨w.heap.size, 0, none⟩ = some (.string X) /\ W.cell? ⟨w.heap.size, 1, none⟩ = some (.int .i64 ik) /\ W.cell? ⟨w.heap.size, 2, none⟩ = some (.int .i64 lo) /\ W.cell? ⟨w.heap.size, 3, none⟩ = some (.int .i64 hi) /\ W.cell? ⟨w.heap.size, 4, none⟩ = some (.int .i64 ik) /\ W.cell? ⟨w.heap.size, 5, none⟩ = some (.int .i64 ia) /\ W.cell? ⟨w.heap.size, 6, none⟩ = some (.int .i64 ib)) := fun W hW =>
   ⟨(hW.cell (show w.heap.size < _ by omega)).trans d0, (hW.cell (show w.heap.size < _ by omega)).trans d1, (hW.cell (show w.heap.size < _ by omega)).trans d2, (hW.cell (show w.heap.size < _ by omega)).trans d3, (hW.cell (show w.heap.size < _ by omega)).trans d4, (hW.cell (show w.heap.size < _ by omega)).trans d5, (hW.cell (show w.heap.size < _ by omega)).trans d6⟩
  go_enter Tryz.func47, Tryz.ntmps47
  go_wp2_with fail
  rw [<- HW.out]
  go_wp2_with fail
  refine (HBO.out _).mono ?_;rintro e w2 ⟨rfl, hb2⟩;obtain ⟨k0, k1, k2, k3, k4, k5, k6⟩ := HT.out w2 hb2;have HB2 := Lib.hid hb2; clear hb2 d0 d1 d2 d3 d4 d5 d6;cases b1 with
  | false =>
   go_wp2_with (go_at_call 33; refine (unless_any _ _ _).mono ?_; rintro e w5 ⟨rfl, h5⟩; obtain rfl := h5)
   go_ret;exact ⟨ret_int HV.out.symm, HB.out.trans (HB2.out.mono HB.out.size)⟩
  | true =>
   go_wp2_with fail
   refine (HRV.out _).mono ?_;rintro e w3 ⟨rfl, hb3⟩;obtain ⟨j0, j1, j2, j3, j4, j5, j6⟩ := HT.out w3 (HB2.out.trans (hb3.mono HB2.out.size));have HB3 := Lib.hid (HB2.out.trans (hb3.mono HB2.out.size)); clear hb3 k0 k1 k2 k3 k4 k5 k6;cases b2 with
   | false =>
    go_wp2_with (go_at_call 33; refine (unless_any _ _ _).mono ?_; rintro e w5 ⟨rfl, h5⟩; obtain rfl := h5)
    go_ret;exact ⟨ret_int HV.out.symm, HB.out.trans (HB3.out.mono HB.out.size)⟩
   | true =>
    go_wp2_with fail
    refine (HMH.out _).mono ?_;rintro e w4 ⟨rfl, hb4⟩;have HB4 := Lib.hid (HB3.out.trans (hb4.mono HB3.out.size)); clear hb4;cases b3 <;>
    ·go_wp2_with (go_at_call 33; refine (unless_any _ _ _).mono ?_; rintro e w5 ⟨rfl, h5⟩; obtain rfl := h5)
     go_ret;exact ⟨ret_int HV.out.symm, HB.out.trans (HB4.out.mono HB.out.size)⟩
 ·have q3 : (ik != kd) = true := bne_iff_ne.2 h3;have hv : varE ⟨nm, kd, lo, hi, ik, ia, ib⟩ = 8 := by rw [HR.out, if_pos (Or.inr h3)]
  have HV := Lib.hid hv; clear hv h1 h2
  go_enter Tryz.func47, Tryz.ntmps47
  go_wp2_with fail
  rw [<- HW.out];go_wp2;go_ret;exact ⟨ret_int HV.out.symm, HB.out⟩
end Go.Proofs.YtgjeofaedidnpaaGreatDoor.Ch.Vd
namespace Go.Proofs.YtgjeofaedidnpaaGreatDoor.Tr
open Go.RowKit
set_option maxHeartbeats 1000000 in
theorem within_any (v : Value) (xs : List SM) (i j : Nat) (w : World) (hR : RdT w v xs) (hi : i < xs.length) (hj : j < xs.length) (hl : xs.length <= 4611686018427387904) :
 Calls Tryz.prog 160 #[v, .int .i64 i, .int .i64 j] w fun e w' => e = .returned (.bool (decide (wi (dp xs) i j))) /\ ∃ n, w' = w.drewN n := by
 have HE := Lib.hid (fun W (h : RdT W v xs) => end_any v xs i W h hi hl);have HI := Lib.hid (wi_iff (d := dp xs) hi hj);have hes := (en_spec (dp xs) hi).2.1;generalize en (dp xs) xs.length i = E at *
 have HR := Lib.hid hR; clear hR;by_cases hij : i < j
 ·by_cases hE : j < E
  ·have hw : decide (wi (dp xs) i j) = true := decide_eq_true (HI.out.2 ⟨hij, hE⟩);rw [hw];clear hw HI
   go_enter Tryz.func160, Tryz.ntmps160
   go_wp2_with fail
   refine (HE.out _ HR.out).mono ?_;rintro e w1 ⟨rfl, q, rfl⟩;go_wp2;go_ret;exact ⟨rfl, q, rfl⟩
  ·have hw : decide (wi (dp xs) i j) = false := decide_eq_false (fun h => hE (HI.out.1 h).2);rw [hw];clear hw HI
   go_enter Tryz.func160, Tryz.ntmps160
   go_wp2_with fail
   refine (HE.out _ HR.out).mono ?_;rintro e w1 ⟨rfl, q, rfl⟩;go_wp2;go_ret;exact ⟨rfl, q, rfl⟩
 ·have hw : decide (wi (dp xs) i j) = false := decide_eq_false (fun h => hij h.1);rw [hw];clear hw HI
  go_enter Tryz.func160, Tryz.ntmps160
  go_wp2;go_ret;exact ⟨rfl, 0, rfl⟩
set_option maxHeartbeats 1000000 in
theorem refWithin_any (v : Value) (xs : List SM) (i j : Nat) (w : World) (hR : RdT w v xs) (hj : j < xs.length) (hl : xs.length <= 4611686018427387904) (hN : Nst (dp xs) xs.length) :
 Calls Tryz.prog 56 #[v, .int .i64 i, .int .i64 j] w fun e w' => e = .returned (.bool (decide (wi (dp xs) i j))) /\ ∃ n, w' = w.drewN n := by
 have HP := Lib.hid (fun k W (hk : k < xs.length) (h : RdT W v xs) => refParent_any v xs k W h hk hl hN);have HN := Lib.hid hN;have HR := Lib.hid hR; clear hR hN;have hwp := HN.out.wi_par (i := i) hj;have hp0 : par (dp xs) j = -1 \/ ∃ p : Nat, par (dp xs) j = p /\ p < xs.length := by
  rcases HN.out.nearest hj with ⟨h, _⟩ | ⟨p, h, h1, _⟩
  ·exact Or.inl h
  ·exact Or.inr ⟨p, h, by omega⟩
 have HW := Lib.hid hwp; have HP0 := Lib.hid hp0;clear hwp hp0
 go_enter Tryz.func56, Tryz.ntmps56
 go_wp2_with fail
 refine (HP.out j _ hj HR.out).mono ?_;rintro e w1 ⟨rfl, q, rfl⟩;go_wp2
 go_loopw [7] (fun x wr => ∃ m : Nat, wr = w.drewN m /\ ((x = .int .i64 (-1) /\ Hid (¬ wi (dp xs) i j)) \/ ∃ k : Nat, x = .int .i64 k /\ k < xs.length /\ Hid (wi (dp xs) i j ↔ (k = i \/ wi (dp xs) i k)))) (fun x _ => (intOf x + 1).toNat)
 case atStart =>
  refine ⟨q, rfl, ?_⟩;rcases HP0.out with h | ⟨p, h, hp⟩
  ·exact Or.inl ⟨by rw [h], fun hw => by obtain ⟨p, e, _⟩ := HW.out.1 hw; rw [h] at e; omega⟩
  ·refine Or.inr ⟨p, by rw [h], hp, HW.out.trans ?_⟩;constructor
   ·rintro ⟨p', e, hh⟩;rw [h] at e;obtain rfl : p = p' := by omega
    exact hh
   ·exact fun hh => ⟨p, h, hh⟩
 case round =>
  obtain ⟨m, rfl, ⟨hx, HF⟩ | ⟨k, hx, hk, HF⟩⟩ := hrel
  ·subst hx;have hw : decide (wi (dp xs) i j) = false := decide_eq_false HF.out;have HD := Lib.hid hw;clear hw HF;go_wp2;go_ret;exact ⟨ret_bool HD.out.symm, m, rfl⟩
  ·subst hx;by_cases hki : k = i
   ·subst hki;have hw : decide (wi (dp xs) k j) = true := decide_eq_true (HF.out.2 (Or.inl rfl));have HD := Lib.hid hw;clear hw HF;go_wp2;go_ret;exact ⟨ret_bool HD.out.symm, m, rfl⟩
   ·have hne : ((k : Int) == (i : Int)) = false := int_ne (by omega);have hwk := HN.out.wi_par (i := i) hk;have hnx : (par (dp xs) k = -1 /\ ¬ wi (dp xs) i j) \/ ∃ p : Nat, par (dp xs) k = p /\ p < k /\ (wi (dp xs) i j ↔ (p = i \/ wi (dp xs) i p)) := by
     rcases HN.out.nearest hk with ⟨h, _⟩ | ⟨p, h, h1, _⟩
     ·refine Or.inl ⟨h, fun hw => ?_⟩;rcases HF.out.1 hw with e | hw2
      ·exact hki e
      ·obtain ⟨p, e, _⟩ := hwk.1 hw2; rw [h] at e; omega
     ·refine Or.inr ⟨p, h, h1, HF.out.trans ?_⟩;constructor
      ·rintro (e | hw2)
       ·exact absurd e hki
       ·obtain ⟨p', e, hh⟩ := hwk.1 hw2;rw [h] at e;obtain rfl : p = p' := by omega
        exact hh
      ·exact fun hh => Or.inr (hwk.2 ⟨p, h, hh⟩)
    have HX := Lib.hid hnx;clear hwk hnx HF
    go_wp2_with fail
    refine (HP.out k _ hk (HR.out.drew _)).mono ?_;rintro e w1 ⟨rfl, q2, rfl⟩;rcases HX.out with ⟨h, hf⟩ | ⟨p, h, hpk, hf⟩
    ·rw [h];have HF := Lib.hid hf;clear hf h HX;go_wp2
     go_roundw
     case rel => exact ⟨m + q2, rfl, Or.inl ⟨rfl, HF.out⟩⟩
     case measure => simp [intOf] <;> omega
    ·rw [h];have HF := Lib.hid hf;clear hf h HX;go_wp2
     go_roundw
     case rel => exact ⟨m + q2, rfl, Or.inr ⟨p, rfl, by omega, HF.out⟩⟩
     case measure => simp [intOf] <;> omega
end Go.Proofs.YtgjeofaedidnpaaGreatDoor.Tr
namespace Go.Proofs.YtgjeofaedidnpaaGreatDoor.Tr
open Go.RowKit
def ahd (d : Nat -> Int) : Nat -> Int
 | 0 => -1
 | k + 1 => d k
def OkN (d : Nat -> Int) (m : Nat) : Prop := 0 <= d m /\ d m < 6 /\ d m <= ahd d m + 1
theorem nst_ok {d : Nat -> Int} {n : Nat} : Nst d n ↔ ∀ m, m < n -> OkN d m := by
 constructor
 ·intro h m hm;refine ⟨h.lo m hm, h.hi m hm, ?_⟩;cases m with
  | zero => have := h.first hm; show d 0 <= -1 + 1; omega
  | succ k => exact h.step k hm
 ·intro h;refine ⟨fun i hi => (h i hi).1, fun i hi => (h i hi).2.1, fun h0 => ?_, fun i hi => (h (i + 1) hi).2.2⟩;have : d 0 <= -1 + 1 := (h 0 h0).2.2;omega
theorem ahd_le {d : Nat -> Int} {k : Nat} (h : ∀ m, m < k -> OkN d m) : -1 <= ahd d k /\ ahd d k <= 5 := by
 cases k with
 | zero => show (-1 : Int) <= -1 /\ (-1 : Int) <= 5; omega
 | succ k =>
  have := h k (by omega);show -1 <= d k /\ d k <= 5;have := this.1; have := (h k (by omega)).2.1; omega
set_option maxHeartbeats 4000000 in
theorem isNested_any (v : Value) (xs : List SM) (w : World) (hR : RdT w v xs) (hl : xs.length <= 4611686018427387904) :
 Calls Tryz.prog 85 #[v] w fun e w' => e = .returned (.bool (decide (Nst (dp xs) xs.length))) /\ Below w.heap.size w w' := by
 obtain ⟨A, c, rfl⟩ := hR.form;obtain ⟨n, hn⟩ : ∃ n, xs.length = n := ⟨_, rfl⟩
 have HR := Lib.hid hR;have HNN := Lib.hid hn;rw [hn] at hl HR ⊢;clear hR hn
 go_enter Tryz.func85, Tryz.ntmps85
 go_wp2
 go_loopw [3, 8] (fun x3 x8 wr => ∃ k : Nat, k <= n /\ x8 = .int .i64 k /\ x3 = .int .i64 (ahd (dp xs) k) /\ Hid (∀ m, m < k -> OkN (dp xs) m) /\ Below w.heap.size w wr) (fun _ x _ => n - (intOf x).toNat)
 case atStart => exact ⟨0, by omega, rfl, rfl, fun m hm => by omega, Below.refl _ _⟩
 case round =>
  obtain ⟨k, hk, rfl, rfl, HK, hbw⟩ := hrel;obtain ⟨wl, hwl⟩ : ∃ W, W = wr := ⟨_, rfl⟩
  subst hwl;by_cases hkn : k < n
  ·obtain ⟨b, o, rfl, hb, hc⟩ := HR.out.base (by rw [HNN.out]; omega);obtain ⟨c0, c1, c2, c3, c4, c5⟩ := hc k (by rw [HNN.out]; exact hkn);have hcell : ∀ p u, w.cell? ⟨b, p, none⟩ = some u -> wl.cell? ⟨b, p, none⟩ = some u := fun p u h => (hbw.cell hb).trans h
   replace c0 := hcell _ _ c0; replace c1 := hcell _ _ c1; replace c2 := hcell _ _ c2; replace c3 := hcell _ _ c3; replace c4 := hcell _ _ c4; replace c5 := hcell _ _ c5;have hah := ahd_le HK.out;have HBX := Lib.hid (fun o => hbw.alloc hbw.size o);clear hcell hbw hc hb;generalize xs[k]'(by rw [HNN.out]; exact hkn) = x at *
   obtain ⟨xnm, xk, xd, xini, xea, xen, xec, xxa, xxn, xxc⟩ := x;simp only at c0 c3 c4 c5;by_cases hok : OkN (dp xs) k
   ·obtain ⟨o1, o2, o3⟩ := hok;have HS : Hid (∀ m, m < k + 1 -> OkN (dp xs) m) := fun m hm => by
     by_cases e : m = k
     ·subst e; exact ⟨o1, o2, o3⟩
     ·exact HK.out m (by omega)
    clear HK;go_wp2
    go_roundw
    case rel => exact ⟨k + 1, by omega, by go_num, rfl, HS.out, HBX.out _⟩
    case measure => simp [intOf] <;> omega
   ·have hf : decide (Nst (dp xs) n) = false := decide_eq_false fun h => hok (nst_ok.1 h k hkn)
    have HF := Lib.hid hf;clear hf HK;by_cases h1 : dp xs k < 0
    ·clear hok;go_wp2;go_ret;exact ⟨ret_bool HF.out.symm, HBX.out _⟩
    ·by_cases h2 : 6 <= dp xs k
     ·clear hok;go_wp2;go_ret;exact ⟨ret_bool HF.out.symm, HBX.out _⟩
     ·have h3 : ahd (dp xs) k + 1 < dp xs k := by
       unfold OkN at hok; omega
      clear hok;go_wp2;go_ret;exact ⟨ret_bool HF.out.symm, HBX.out _⟩
  ·obtain rfl : k = n := by omega
   have hf : decide (Nst (dp xs) k) = true := decide_eq_true (nst_ok.2 HK.out);have HF := Lib.hid hf;have HBW := Lib.hid hbw;clear hf HK hbw;go_wp2;go_ret;exact ⟨ret_bool HF.out.symm, HBW.out⟩
end Go.Proofs.YtgjeofaedidnpaaGreatDoor.Tr
namespace Go.Proofs.YtgjeofaedidnpaaGreatDoor.Tr
open Go.RowKit Go.Shelf
attribute [local go_sem] Oper.semAt_some
def KeepP (keep : Nat -> Prop) (W W' : World) : Prop := W.heap.size <= W'.heap.size /\ ∀ k, keep k -> W'.heap[k]? = W.heap[k]?
theorem KeepP.refl (keep : Nat -> Prop) (W : World) : KeepP keep W W := ⟨Nat.le_refl _, fun _ _ => rfl⟩
theorem KeepP.trans {keep : Nat -> Prop} {A B C : World} (h : KeepP keep A B) (h' : KeepP keep B C) : KeepP keep A C := ⟨Nat.le_trans h.1 h'.1, fun k hk => (h'.2 k hk).trans (h.2 k hk)⟩
theorem KeepP.drewN {keep : Nat -> Prop} {A B : World} (h : KeepP keep A B) (n : Nat) : KeepP keep A (B.drewN n) := h
theorem cell_box {W : World} {B : Nat} {t : TypeId} {v : Value} (h : Boxed W B t v) : W.cell? ⟨B, 0, none⟩ = some v := h.cell
def keepC (B0 BL BI : Nat) (k : Nat) : Prop := k < B0 \/ k = BL \/ k = BI
structure ItI {N : Nat} (d : Nat -> Int) (i B0 BL BI : Nat) (J : List { k : Nat // k < N } -> World -> Prop) (W wr : World) (k : Nat) (pre : List { k : Nat // k < N }) : Prop where
 come : pre.map (·.1) = kids d k i
 gt : i < k
 le : k <= en d N i
 par : k < en d N i -> par d k = (i : Int)
 j : J pre wr
 keep : KeepP (keepC B0 BL BI) W wr
theorem kids_len (d : Nat -> Int) (m i : Nat) : (kids d m i).length <= m := by
 have := List.length_filter_le (kidB d i) (List.range m);rw [List.length_range] at this;exact this
theorem kids_prefix {d : Nat -> Int} {m m' i : Nat} (h : m <= m') : kids d m i <+: kids d m' i := by
 unfold kids;obtain ⟨g, rfl⟩ : ∃ g, m' = m + g := ⟨m' - m, by omega⟩
 rw [List.range_add, List.filter_append];exact List.prefix_append _ _
theorem quiet_on {P : Program} {f : FuncId} {args : Array Value} {w : World} {n : Nat} {v : Value} (h : Calls P f args (w.drewN n) fun e w' => e = .returned v /\ ∃ r, w' = (w.drewN n).drewN r) :
 Calls P f args (w.drewN n) fun e w'' => e = .returned v /\ ∃ m, w'' = w.drewN m := h.mono fun _ _ ⟨he, r, hr⟩ => ⟨he, n + r, by rw [hr, World.drewN_drewN]⟩
set_option maxRecDepth 100000 in
set_option maxHeartbeats 4000000 in
theorem children1_in (n : Nat) (hn : 1 <= n) (l BL BI : Nat) (v : Value) (xs : List SM) (i : Nat) (hi : i < xs.length) (hl : xs.length <= 4611686018427387904) (hN : Nst (dp xs) xs.length) (w0 : World) (hR : RdT w0 v xs)
 (J Jx : List { k : Nat // k < xs.length } -> World -> Prop) (hJ : ∀ pre W m, J pre W -> J pre (World.drewN W m))
 (hY : ∀ pre x W, J pre W -> pre.length < xs.length -> YieldAt Fence.wide (n - 1) Tryz.prog l #[.int .i64 x.1] W fun e W' =>
  (e = .returned (.bool true) /\ J (pre ++ [x]) W' /\ KeepP (keepC w0.heap.size BL BI) W W') \/ (e = .returned (.bool false) /\ Jx (pre ++ [x]) W'))
 (W : World) (hW : KeepP (fun k => k < w0.heap.size) w0 W) (hBL : Boxed W BL 24 v) (hBI : Boxed W BI 3 (.int .i64 i)) (h0 : J [] W) :
 CallsIn Fence.wide n Tryz.prog 156 #[.func (.yield l) #[] #[], .pointer (some ⟨BI, 0, none⟩), .pointer (some ⟨BL, 0, none⟩)] W fun e W' => (∃ v, e = .returned v) /\
  ((∃ ys, ys.map (·.1) = kids (dp xs) xs.length i /\ J ys W') \/ (∃ pre, pre.map (·.1) <+: kids (dp xs) xs.length i /\ Jx pre W')) := by
 have HRD : Hid (∀ wr m, KeepP (keepC w0.heap.size BL BI) W wr -> RdT (wr.drewN m) v xs) := fun wr m h =>
  Inn.same hR (Nat.le_trans hW.1 h.1) (fun k hk => (h.2 k (Or.inl hk)).trans (hW.2 k hk))
 have HBL : Hid (∀ wr, KeepP (keepC w0.heap.size BL BI) W wr -> wr.cell? ⟨BL, 0, none⟩ = some v) := fun wr h => cell_box (show Boxed wr BL 24 v from (h.2 BL (Or.inr (Or.inl rfl))).trans hBL)
 have HE := Lib.hid (fun k W (hk : k < xs.length) h => end_any v xs k W h hk hl);have HN := Lib.hid hN;have hcl := HBL.out W (KeepP.refl _ _);have hci := cell_box hBI;obtain ⟨e1, e2, _, _⟩ := en_spec (dp xs) hi;have HY := Lib.hid hY; have HJ := Lib.hid hJ; have H0 := Lib.hid h0;clear hR hW hBL hBI hN hY hJ h0;refine callsIn_of_wp Tryz.func156 rfl trivial ?_ rfl;simp only [Tryz.ntmps156, List.size_toArray, List.length_cons, List.length_nil, Nat.reduceAdd, Nat.reduceSub, Array.replicate_succ, Array.replicate_zero, List.push_toArray, List.append_toArray, List.nil_append, List.cons_append]
 gi_wp2
 refine wpIn_wide.2 ?_
 go_quiet ((go_at_call 157; exact quiet_on (HE.out i _ hi (HRD.out _ _ (KeepP.refl _ _)))))
 gi_wp2
 gi_loopw [4] (fun x4 wr => ∃ (k : Nat) (pre : List { k : Nat // k < xs.length }), x4 = .int .i64 k /\ ItI (dp xs) i w0.heap.size BL BI J W wr k pre) (fun x _ => en (dp xs) xs.length i - (intOf x).toNat)
 case atStart =>
  exact ⟨i + 1, [], by go_num, by rw [HN.out.kids_first hi]; rfl, by omega, e1, fun h => HN.out.first_kid hi h, HJ.out _ _ _ H0.out, KeepP.refl _ _⟩
 case round =>
  obtain ⟨k, pre, rfl, hI⟩ := hrel;by_cases hlt : k < en (dp xs) xs.length i
  ·have hkn : k < xs.length := by omega
   obtain ⟨f1, f2, f3, f4⟩ := HN.out.next_kid hi hlt (hI.par hlt);obtain ⟨fn, tmps, assign, body, hy, hQ⟩ := HY.out pre ⟨k, hkn⟩ wr hI.j (by have h1 := congrArg List.length hI.come; rw [List.length_map] at h1; have := kids_len (dp xs) k i; omega)
   dsimp only at hy
   have HI := Lib.hid hI;have HF := Lib.hid (And.intro f1 (And.intro f2 (And.intro f3 f4)));clear hI f1 f2 f3 f4
   gi_wp2
   refine hQ.mono ?_;rintro e W3 (⟨rfl, hJ3, hk3⟩ | ⟨rfl, hJx3⟩)
   ·have hkp := HI.out.keep.trans hk3;have hc3 := HBL.out W3 hkp;have HKP := Lib.hid hkp; have HJ3 := Lib.hid hJ3;clear hkp hk3 hJ3 hQ hy
    gi_wp2_with (refine ⟨trivial, ?_⟩; gi_at_call 157; refine (callsIn_wide.2 (HE.out k _ hkn (HRD.out W3 0 HKP.out))).mono ?_; rintro e W4 ⟨rfl, q, rfl⟩)
    go_roundw
    case rel =>
     refine ⟨_, pre ++ [⟨k, hkn⟩], rfl, ?_, ?_, HF.out.2.1, HF.out.2.2.2, HJ.out _ _ _ HJ3.out, HKP.out⟩
     ·rw [List.map_append, HI.out.come, HF.out.2.2.1]; rfl
     ·have := HI.out.gt; have := HF.out.1; omega
    case measure =>
     have := HF.out.1; have := HF.out.2.1;simp [intOf] <;> omega
   ·gi_wp2
    refine bodyPost_ret (results_none rfl _ _ _) rfl ?_;refine ⟨⟨_, rfl⟩, .inr ⟨pre ++ [⟨k, hkn⟩], ?_, hJx3⟩⟩;rw [List.map_append, HI.out.come, HN.out.kids_end hi];have e : kids (dp xs) k i ++ [k] = kids (dp xs) (en (dp xs) xs.length k) i := HF.out.2.2.1.symm;show kids (dp xs) k i ++ [k] <+: _;rw [e];exact kids_prefix HF.out.2.1
  ·obtain rfl : k = en (dp xs) xs.length i := by have := hI.le; omega
   gi_wp2
   go_end0
   exact ⟨⟨_, rfl⟩, .inl ⟨_, by rw [hI.come, HN.out.kids_end hi], hI.j⟩⟩
end Go.Proofs.YtgjeofaedidnpaaGreatDoor.Tr
namespace Go.Proofs.YtgjeofaedidnpaaGreatDoor
open Go
def plainB (ops : Array Oper) : Bool := ops.all fun o => match o.op with | .defer _ => false | _ => true
theorem plainB_at {ops : Array Oper} (h : plainB ops = true) {i : Nat} {o : Oper} (ho : ops[i]? = some o) (c : Call) : o.op ≠ .defer c := by
 obtain ⟨hi, e⟩ := Array.getElem?_eq_some_iff.1 ho;have := (Array.all_eq_true.1 h) i hi;rw [e] at this;intro hc;rw [hc] at this;cases this
section
variable {F : Fence} {n : Nat} {P : Program} {ops : Array Oper} {C : World -> Prop} {md : Region.Mode}
theorem oper_round {o : Oper} {a : Act} {K : Act -> Prop} {K' : Act -> World -> Prop} {Q' : Exit -> Act -> World -> Prop} {w : World} (hd : ∀ c, o.op ≠ .defer c) (hw : C w) (h : ∀ a w', C w' -> K a -> K' a w')
 (ha : o.askedIn F P a C) (hh : o.quietIn F n P a C K) : o.wpIn F n P a w K' Q' := by
 obtain ⟨v, h1, h2⟩ := hh;have h3 : Oper.quietUponIn F n P C w v ((execOp a.eval o).run P w) := h1 w hw;refine ⟨ha w hw, ?_⟩;rw [Oper.semAt_eq _ _ _ hd];generalize (execOp a.eval o).run P w = r at *
 cases r with
 | halt x w' => simp only [Oper.quietUponIn] at h3
 | ok x w' =>
  cases x <;> simp only [Oper.quietUponIn] at h3 <;> simp only [Oper.uponIn]
  case value u => rw [h3.1, h3.2]; exact h _ _ hw h2
  case skip => rw [h3.1, <- h3.2]; exact h _ _ hw h2
  case enter f args =>
   rw [h3.1];exact ⟨h3.2.1, h3.2.2.mono fun e w'' he => by obtain ⟨he, hw''⟩ := he; subst he; exact h _ _ hw'' h2⟩
theorem op_round (hp : plainB ops = true) {i : Nat} {a : Act} {K : Act -> Prop} {K' : Act -> World -> Prop} {Q' : Exit -> Act -> World -> Prop} {w : World} (hC : C w) (h : ∀ a w', C w' -> K a -> K' a w')
 (hh : qOpIn F n P ops C i K a) : wpOpIn F n P ops Q' i K' a w := by
 unfold qOpIn at hh;unfold wpOpIn;cases ho : ops[i]? with
 | none => simp only [ho] at hh ⊢; exact h _ _ hC hh
 | some o =>
  simp only [ho] at hh ⊢;by_cases hw : Region.wanted o (yielded ops a.tmps) = true
  ·simp only [hw, if_true] at hh ⊢; exact oper_round (plainB_at hp ho) hC h hh.1 hh.2
  ·simp only [hw] at hh ⊢; exact ⟨hh.1 w hC, h _ _ hC hh.2⟩
theorem any_round (hp : plainB ops = true) {Q : Act -> Prop} {Q' : Exit -> Act -> World -> Prop} (hQ : ∀ a w, C w -> Q a -> Q' .normal a w) : ∀ (fuel : Nat) (listed : Array Bool) (a : Act) (w : World), C w ->
 wpAnyQIn F n P md ops C Q fuel listed a -> wpAnyIn F n P md ops Q' fuel listed a w
 | 0, _, _, _, hw, h => ⟨h.1, hQ _ _ hw h.2⟩
 | fuel + 1, _, _, _, hw, h => ⟨fun h0 => hQ _ _ hw (h.1 h0), fun i hi => op_round hp hw (fun a' w' hw' => any_round hp hQ fuel _ a' w' hw') (h.2 i hi)⟩
theorem region_round {id : Nat} {Q : Exit -> Act -> World -> Prop} {a : Act} {w : World} {l : List Oper} (hp : plainB l.toArray = true) (hm : P.follows .mixedOrders = true) (hB : Region.lexB .any l.toArray = true)
 (h : wpQuietIn F n P l.toArray (fun w' => ∃ n, w' = w.drewN n) (fun a' => ∀ w', (∃ n, w' = w.drewN n) -> Q .normal a' w') l a) : (Code.region id l.toArray true).wpIn F n P Q a w := by
 simp only [Region.lexB, Bool.and_eq_true] at hB;refine wpIn_region_any hm (any_round hp (C := fun w' => ∃ n, w' = w.drewN n) (Q := fun a' => ∀ w', (∃ n, w' = w.drewN n) -> Q .normal a' w') (fun _ w' hw' h => h w' hw') _ _ _ _ ⟨1, rfl⟩ ?_);have := wpAnyQIn_lex (F := F) (n := n) (C := fun w' => ∃ n, w' = w.drewN n) (md := .any) hB.1 l 0 (Array.replicate l.length false) a (by simp) (by simpa using hB.2) h
 simpa using this
end
end Go.Proofs.YtgjeofaedidnpaaGreatDoor
