/- Own texts, joined: Kg. -/
import Derived.Test.YtcnfcililiehlaaGreatDoorR15
namespace Go.Proofs.YtcnfcililiehlaaGreatDoor.Kd
open Go.RowKit
def kv (ks : List Int) : List Value := ks.map (Value.int .i64)
theorem kv_length (ks : List Int) : (kv ks).length = ks.length := by simp [kv]
theorem leaf_alone {vs : List VM} {ss : List (List UInt8)} {c : CM} (h5 : c.op ≠ 5) (h6 : c.op = 6 -> c.nm ∈ ss) : leafK vs ss c = (aloneK c.op, 0) := by
 unfold leafK aloneK;by_cases h1 : c.op = 1
 ·rw [if_pos h1, if_pos h1]
 ·by_cases h2 : c.op = 2
  ·rw [if_neg h1, if_neg h1, if_pos h2, if_pos h2]
  ·rw [if_neg h1, if_neg h1, if_neg h2, if_neg h2, if_neg h5, if_neg (fun e => e.2 (h6 e.1))]
theorem alone_pos (o : Int) : aloneK o ≠ 0 := by
 unfold aloneK;by_cases h1 : o = 1
 ·rw [if_pos h1]; decide
 ·by_cases h2 : o = 2
  ·rw [if_neg h1, if_pos h2]; decide
  ·rw [if_neg h1, if_neg h2]; decide
set_option maxHeartbeats 2000000 in
theorem made0_any (op a : Int) (X : ByteArray) (u v s : Value) (vs : List VM) (ss : List (List UInt8)) (w : World) (hop : 1 <= op /\ op <= 6) (A : Option Addr) (c : Nat) (hu : u = .slice A 0 c) (hR : RdV w v vs) (hl : vs.length <= 4611686018427387904) (hS : RdW w s ss) (hsl : ss.length <= 4611686018427387904) :
 Calls Tryz.prog 263 #[.agg #[.int .i64 op, .int .i64 a, .string X], u, v, s] w fun e w' => e = .returned (.tuple #[.int .i64 (leafK vs ss ⟨op, a, X.data.toList⟩).1, .int .i64 (leafK vs ss ⟨op, a, X.data.toList⟩).2]) /\ Below w.heap.size w w' := by
 subst hu;have HB : Hid (∀ o : Obj, Below w.heap.size w (w.alloc o)) := fun o => (Below.refl _ _).alloc (Nat.le_refl _) o
 have HV : Hid (∀ o : Obj, RdV (w.alloc o) v vs) := fun o => hR.below (HB.out o)
 have HS : Hid (∀ o : Obj, RdW (w.alloc o) s ss) := fun o => hS.below (HB.out o)
 have HF := Lib.hid (fun W h => variable_any v vs X W h hl);have HH := Lib.hid (fun W h => strContains_any s ss X W h (by omega));obtain ⟨V, cv, rfl⟩ := hR.form;obtain ⟨S, cs, rfl⟩ := hS.form;clear hR hS;by_cases h5 : op = 5
 ·subst h5;rw [show leafK vs ss ⟨5, a, X.data.toList⟩ = varK vs X.data.toList from rfl]
  go_enter Tryz.func263, Tryz.ntmps263
  go_wp2_with fail
  refine (HF.out _ (HV.out _)).mono ?_;rintro e w1 ⟨rfl, hb1⟩;have HB1 := Lib.hid ((HB.out _).trans (hb1.mono (HB.out _).size)); clear hb1;go_wp2;go_ret2;exact ⟨rfl, HB1.out⟩
 ·have t5 := int_ne h5;by_cases h6 : op = 6
  ·subst h6;by_cases hm : X.data.toList ∈ ss
   ·have HL := Lib.hid (leaf_alone (vs := vs) (ss := ss) (c := ⟨6, a, X.data.toList⟩) h5 (fun _ => hm));have HM := Lib.hid (decide_eq_true hm);clear hm h5
    go_enter Tryz.func263, Tryz.ntmps263
    go_wp2_with fail
    refine (HH.out _ (HS.out _)).mono ?_;rintro e w1 ⟨rfl, rfl⟩;rw [HM.out]
    go_wp2_with fail
    refine (alone_any _ _ (by decide)).mono ?_;rintro e w1 ⟨rfl, rfl⟩;rw [show aloneK 6 = 2 from rfl];go_wp2;go_ret2;exact ⟨ret_pair HL.out, HB.out _⟩
   ·have HL : Hid (leafK vs ss ⟨6, a, X.data.toList⟩ = (0, 2)) := by
     show leafK _ _ _ = _;unfold leafK; simp [hm]
    have HM := Lib.hid (decide_eq_false hm);clear hm h5
    go_enter Tryz.func263, Tryz.ntmps263
    go_wp2_with fail
    refine (HH.out _ (HS.out _)).mono ?_;rintro e w1 ⟨rfl, rfl⟩;rw [HM.out];go_wp2;go_ret2;exact ⟨ret_pair HL.out, HB.out _⟩
  ·have t6 := int_ne h6;have HL := Lib.hid (leaf_alone (vs := vs) (ss := ss) (c := ⟨op, a, X.data.toList⟩) h5 (fun e => absurd e h6));have ha := alone_pos op;have ha' := int_ne ha;have HAL := Lib.hid (fun W => alone_any op W hop);clear h5 h6 ha hop
   go_enter Tryz.func263, Tryz.ntmps263
   go_wp2_with fail
   refine (HAL.out _).mono ?_;rintro e w1 ⟨rfl, rfl⟩;go_wp2;go_ret2;exact ⟨ret_pair HL.out, HB.out _⟩
theorem errK_zero {k : Int} (h : k = 0) : errK k = (0, 8) := by unfold errK; rw [if_pos h]
theorem errK_some {k : Int} (h : k ≠ 0) : errK k = (k, 0) := by unfold errK; rw [if_neg h]
set_option maxHeartbeats 2000000 in
theorem made1_any (op a : Int) (X : ByteArray) (u v s : Value) (k : Int) (w : World) (hop : 7 <= op /\ op <= 10) (hk : 1 <= k /\ k <= 3) (b o c : Nat) (hu : u = .slice (some ⟨b, o, none⟩) 1 c) (hc : w.cell? ⟨b, o, none⟩ = some (.int .i64 k)) (hv : ∃ A n c, v = .slice A n c) (hs : ∃ A n c, s = .slice A n c) :
 Calls Tryz.prog 263 #[.agg #[.int .i64 op, .int .i64 a, .string X], u, v, s] w fun e w' => e = .returned (.tuple #[.int .i64 (errK (unK op k)).1, .int .i64 (errK (unK op k)).2]) /\ Below w.heap.size w w' := by
 subst hu;obtain ⟨A1, n1, c1, rfl⟩ := hv;obtain ⟨A2, n2, c2, rfl⟩ := hs;have HB : Hid (∀ (o : Obj) n, Below w.heap.size w ((w.alloc o).drewN n)) := fun o n => ((Below.refl _ _).alloc (Nat.le_refl _) o).trans ⟨rfl, rfl, rfl, Nat.le_refl _, fun _ _ => rfl⟩
 have hca : (w.alloc (.cells #[.int .i64 op, .int .i64 a, .string X] 176)).cell? ⟨b, o, none⟩ = some (.int .i64 k) := (World.cell?_alloc_lt w _ _ (cell_lt hc)).trans hc;have t5 := int_ne (a := op) (b := 5) (by omega);have t6 := int_ne (a := op) (b := 6) (by omega);clear hc;have HAH := Lib.hid (fun W => ahead_any op k W hop hk);clear hop hk;by_cases h0 : unK op k = 0
 ·have HE := Lib.hid (errK_zero h0);have HZ := Lib.hid h0;clear h0
  go_enter Tryz.func263, Tryz.ntmps263
  go_wp2_with fail
  go_quiet ((go_at_call 279; exact Calls.quiet_of_same ((HAH.out _).mono fun _ _ h => ⟨h.1, h.2.symm⟩)))
  rw [HZ.out];go_wp2;go_ret2;exact ⟨ret_pair HE.out, HB.out _ _⟩
 ·have HE := Lib.hid (errK_some h0);have t0 := int_ne h0;clear h0
  go_enter Tryz.func263, Tryz.ntmps263
  go_wp2_with fail
  go_quiet ((go_at_call 279; exact Calls.quiet_of_same ((HAH.out _).mono fun _ _ h => ⟨h.1, h.2.symm⟩)))
  go_wp2;go_ret2;exact ⟨ret_pair HE.out, HB.out _ _⟩
set_option maxHeartbeats 2000000 in
theorem made2_any (op a : Int) (X : ByteArray) (u v s : Value) (k l : Int) (w : World) (hop : 11 <= op /\ op <= 23) (hk : 1 <= k /\ k <= 3) (b o c : Nat) (hu : u = .slice (some ⟨b, o, none⟩) 2 c) (hc : w.cell? ⟨b, o, none⟩ = some (.int .i64 k)) (hd : w.cell? ⟨b, o + 1, none⟩ = some (.int .i64 l)) (hv : ∃ A n c, v = .slice A n c) (hs : ∃ A n c, s = .slice A n c) :
 Calls Tryz.prog 263 #[.agg #[.int .i64 op, .int .i64 a, .string X], u, v, s] w fun e w' => e = .returned (.tuple #[.int .i64 (joinK op k l).1, .int .i64 (joinK op k l).2]) /\ Below w.heap.size w w' := by
 subst hu;obtain ⟨A1, n1, c1, rfl⟩ := hv;obtain ⟨A2, n2, c2, rfl⟩ := hs;have HB : Hid (∀ (o : Obj) n, Below w.heap.size w ((w.alloc o).drewN n)) := fun o n => ((Below.refl _ _).alloc (Nat.le_refl _) o).trans ⟨rfl, rfl, rfl, Nat.le_refl _, fun _ _ => rfl⟩
 have hca : (w.alloc (.cells #[.int .i64 op, .int .i64 a, .string X] 176)).cell? ⟨b, o, none⟩ = some (.int .i64 k) := (World.cell?_alloc_lt w _ _ (cell_lt hc)).trans hc;have hda : (w.alloc (.cells #[.int .i64 op, .int .i64 a, .string X] 176)).cell? ⟨b, o + 1, none⟩ = some (.int .i64 l) := (World.cell?_alloc_lt w _ _ (cell_lt hd)).trans hd;have t5 := int_ne (a := op) (b := 5) (by omega);have t6 := int_ne (a := op) (b := 6) (by omega);clear hc hd;have HAH := Lib.hid (fun W => between_any op k l W hop hk);have HJ : Hid (joinK op k l = errK (if k ≠ l then 0 else binK op k)) := by
  show joinK op k l = _;unfold joinK;by_cases h : k = l
  ·rw [if_neg (by simp [h]), if_neg (by simp [h])]
  ·rw [if_pos h, if_pos h]; rfl
 clear hop hk;generalize (if k ≠ l then 0 else binK op k) = r at *
 by_cases h0 : r = 0
 ·have HE := Lib.hid (HJ.out.trans (errK_zero h0));subst h0
  go_enter Tryz.func263, Tryz.ntmps263
  go_wp2_with fail
  go_quiet ((go_at_call 280; exact Calls.quiet_of_same ((HAH.out _).mono fun _ _ h => ⟨h.1, h.2.symm⟩)))
  go_wp2;go_ret2;exact ⟨ret_pair HE.out, HB.out _ _⟩
 ·have HE := Lib.hid (HJ.out.trans (errK_some h0));have t0 := int_ne h0;clear h0
  go_enter Tryz.func263, Tryz.ntmps263
  go_wp2_with fail
  go_quiet ((go_at_call 280; exact Calls.quiet_of_same ((HAH.out _).mono fun _ _ h => ⟨h.1, h.2.symm⟩)))
  go_wp2;go_ret2;exact ⟨ret_pair HE.out, HB.out _ _⟩
end Go.Proofs.YtcnfcililiehlaaGreatDoor.Kd
