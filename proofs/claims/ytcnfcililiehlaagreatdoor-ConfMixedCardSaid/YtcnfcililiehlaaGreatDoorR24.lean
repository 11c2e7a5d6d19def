/- Own texts, joined: A19, A20. -/
import Derived.Test.YtcnfcililiehlaaGreatDoorR2
import Derived.Test.YtcnfcililiehlaaGreatDoorR3
import Derived.Test.YtcnfcililiehlaaGreatDoorR4
import Derived.Test.YtcnfcililiehlaaGreatDoorR5
import Derived.Test.YtcnfcililiehlaaGreatDoorR18
import Derived.Test.YtcnfcililiehlaaGreatDoorR19
import Derived.Test.YtcnfcililiehlaaGreatDoorR23
namespace Go.Proofs.YtcnfcililiehlaaGreatDoor
open Go.RowKit
theorem any_take {α : Type} {p : α -> Bool} {l : List α} {k : Nat} (hk : k < l.length) (h : (l.take k).any p = false) : (l.take (k + 1)).any p = p l[k] := by
 rw [List.take_succ_eq_append_getElem hk, List.any_append, h]; simp
theorem any_hit {α : Type} {p : α -> Bool} {l : List α} {k : Nat} (hk : k < l.length) (h : p l[k] = true) : l.any p = true :=
 List.any_eq_true.2 ⟨_, List.getElem_mem hk, h⟩
theorem any_end {α : Type} {p : α -> Bool} {l : List α} {k : Nat} (hk : ¬ k < l.length) (h : (l.take k).any p = false) : l.any p = false := by
 rw [List.take_of_length_le (by omega)] at h; exact h
set_option maxRecDepth 100000 in
set_option maxHeartbeats 2000000 in
theorem refAsks_any (v : Value) (cs : List CM) (w : World) (hR : RdC w v cs) (hl : cs.length <= 4611686018427387904) :
 Calls Tryz.prog 179 #[v] w fun e w' => e = .returned (.bool (asksB cs)) /\ w' = w := by
 obtain ⟨A, c, rfl⟩ := hR.form;have HR := Lib.hid hR; clear hR;obtain ⟨n, hn⟩ : ∃ n, cs.length = n := ⟨_, rfl⟩
 have HN := Lib.hid hn;rw [hn] at hl HR ⊢;clear hn
 go_enter Tryz.func179, Tryz.ntmps179
 go_wp2
 go_loopw [2, 3] (fun x i wr => x = .bool false /\ ∃ k : Nat, k <= n /\ Hid ((cs.take k).any isIn = false) /\ wr = w /\ i = .int .i64 k) (fun _ i _ => n - (intOf i).toNat)
 case atStart => exact ⟨rfl, 0, by omega, rfl, rfl, rfl⟩
 case round =>
  obtain ⟨rfl, k, hk, HT, hw, rfl⟩ := hrel;replace hw := hw.symm;subst hw;by_cases hkn : k < n
  ·have hkc : k < cs.length := by rw [HN.out]; exact hkn
   obtain ⟨b, o, rfl, c0, _, _⟩ := HR.out.at_ hkc;have hat := any_take hkc HT.out;have hhit := any_hit (p := isIn) hkc;generalize cs[k] = x at *
   by_cases h6 : x.op = 6
   ·have hL : asksB cs = true := hhit (decide_eq_true h6);have HL := Lib.hid hL;rw [h6] at c0;clear hat hhit h6 hL;go_wp2;go_ret;exact ⟨ret_bool HL.out.symm, rfl⟩
   ·have HL : Hid ((cs.take (k + 1)).any isIn = false) := hat.trans (decide_eq_false h6);have h6' := int_ne h6;clear hat hhit;go_wp2
    go_roundw
    case rel => exact ⟨rfl, k + 1, by omega, HL.out, (by first | exact trivial | rfl), by go_num⟩
    case measure => simp [intOf]; omega
  ·have HL : Hid (asksB cs = false) := any_end (by rw [HN.out]; exact hkn) HT.out;go_wp2;go_ret;exact ⟨ret_bool HL.out.symm, rfl⟩
set_option maxRecDepth 100000 in
set_option maxHeartbeats 4000000 in
theorem refOne_any (k : Int) (X : ByteArray) (v : Value) (cs : List CM) (w : World) (hR : RdI w v cs) (hl : cs.length * 32 <= 140737488355328) (hN : Names cs) (hX : X.size <= 281474976710656) :
 Calls Tryz.prog 145 #[.agg #[.int .i64 k, .string X, v]] w fun e w' => e = .returned (.bool (oneB ⟨k, X.data.toList, cs⟩)) /\ Below w.heap.size w w' := by
 have HC0 : Hid (∀ W, Below w.heap.size w W -> Calls Tryz.prog 146 #[v] W fun e w' => e = .returned (.bool (rightB cs)) /\ Below W.heap.size W w') := fun W hb => refRight_any v cs W (hR.below hb).rd (by omega) hN
 have HC1 : Hid (∀ W, Below w.heap.size w W -> Calls Tryz.prog 179 #[v] W fun e w' => e = .returned (.bool (asksB cs)) /\ w' = W) := fun W hb => refAsks_any v cs W (hR.below hb).rd (by omega)
 have HN := Lib.hid (refName_any X);have HE := Lib.hid (fun W => refEvent_any X W hX);obtain ⟨A, c, rfl⟩ := hR.slice;have HB0 : Hid (Below w.heap.size w (w.alloc (.cells #[.int .i64 k, .string X, .slice A cs.length c] 116))) := (Below.refl _ _).alloc (Nat.le_refl _) _;have d2 : (w.alloc (.cells #[.int .i64 k, .string X, .slice A cs.length c] 116)).cell? ⟨w.heap.size, 2, none⟩ = some (.slice A cs.length c) := by simp
 have hlen : (cs.length : Int) <= 4398046511104 := by omega
 have HBA : Hid (∀ o : Obj, Below w.heap.size w (w.alloc o)) := fun o => (Below.refl _ _).alloc (Nat.le_refl _) o
 clear hR hl hN;by_cases h1 : k = 1
 ·subst h1;cases hn : nameB X.data.toList with
  | false =>
   have hL : Hid (oneB ⟨1, X.data.toList, cs⟩ = false) := by show oneB _ = false; unfold oneB; rw [if_pos rfl]; simp only [hn]; rfl
   have HH := Lib.hid hn; clear hn
   go_enter Tryz.func145, Tryz.ntmps145
   go_wp2_with fail
   refine (HN.out _).mono ?_;rintro e w1 ⟨rfl, rfl⟩;rw [HH.out];go_wp2;go_ret;exact ⟨by rw [hL.out]; rfl, HB0.out⟩
  | true =>
   have HH := Lib.hid hn;cases hr : rightB cs with
   | false =>
    have hL : Hid (oneB ⟨1, X.data.toList, cs⟩ = false) := by show oneB _ = false; unfold oneB; rw [if_pos rfl]; simp only [hr, Bool.and_false, Bool.false_and]
    have HH2 := Lib.hid hr; clear hr hn
    go_enter Tryz.func145, Tryz.ntmps145
    go_wp2_with fail
    refine (HN.out _).mono ?_;rintro e w1 ⟨rfl, rfl⟩;rw [HH.out]
    go_wp2_with fail
    refine (HC0.out _ HB0.out).mono ?_;rintro e w2 ⟨rfl, hb2⟩;rw [HH2.out];have HB2 := Lib.hid (HB0.out.trans (hb2.mono HB0.out.size)); clear hb2;go_wp2;go_ret;exact ⟨by rw [hL.out]; rfl, HB2.out⟩
   | true =>
    have hL : Hid (oneB ⟨1, X.data.toList, cs⟩ = !asksB cs) := by show oneB _ = _; unfold oneB; rw [if_pos rfl]; simp only [hr, hn, Bool.true_and]
    have HH2 := Lib.hid hr; clear hr hn
    go_enter Tryz.func145, Tryz.ntmps145
    go_wp2_with fail
    refine (HN.out _).mono ?_;rintro e w1 ⟨rfl, rfl⟩;rw [HH.out]
    go_wp2_with fail
    refine (HC0.out _ HB0.out).mono ?_;rintro e w2 ⟨rfl, hb2⟩;rw [HH2.out];have HB2 := Lib.hid (HB0.out.trans (hb2.mono HB0.out.size));have e2 := (hb2.cell (by simp)).trans d2;clear hb2
    go_wp2_with fail
    refine (HC1.out _ HB2.out).mono ?_;rintro e w3 ⟨rfl, hw3⟩;obtain rfl := hw3.symm;go_wp2;go_ret;exact ⟨by rw [hL.out]; rfl, HB2.out⟩
 ·have h1' := int_ne h1;by_cases h23 : k = 2 \/ k = 3
  ·cases he : eventB X.data.toList with
   | false =>
    have hL : Hid (oneB ⟨k, X.data.toList, cs⟩ = false) := by show oneB _ = false; unfold oneB; rw [if_neg h1, if_pos h23]; simp only [he]; rfl
    have HH := Lib.hid he; clear he;rcases h23 with rfl | rfl
    all_goals
     go_enter Tryz.func145, Tryz.ntmps145
     go_wp2_with fail
     refine (HE.out _).mono ?_;rintro e w1 ⟨rfl, rfl⟩;rw [HH.out];go_wp2;go_ret;exact ⟨by rw [hL.out]; rfl, HB0.out⟩
   | true =>
    have hL : Hid (oneB ⟨k, X.data.toList, cs⟩ = decide (cs.length = 0)) := by show oneB _ = _; unfold oneB; rw [if_neg h1, if_pos h23]; simp only [he, Bool.true_and]
    have HH := Lib.hid he; clear he;by_cases h0 : cs.length = 0
    ·have HL : Hid (oneB ⟨k, X.data.toList, cs⟩ = true) := hL.out.trans (decide_eq_true h0);have h0' : ((cs.length : Int) == 0) = true := by simp [h0]
     rcases h23 with rfl | rfl
     all_goals
      go_enter Tryz.func145, Tryz.ntmps145
      go_wp2_with fail
      refine (HE.out _).mono ?_;rintro e w1 ⟨rfl, rfl⟩;rw [HH.out];go_wp2;go_ret;exact ⟨ret_bool HL.out.symm, HBA.out _⟩
    ·have HL : Hid (oneB ⟨k, X.data.toList, cs⟩ = false) := hL.out.trans (decide_eq_false h0);have h0' : ((cs.length : Int) == 0) = false := int_ne (by omega);rcases h23 with rfl | rfl
     all_goals
      go_enter Tryz.func145, Tryz.ntmps145
      go_wp2_with fail
      refine (HE.out _).mono ?_;rintro e w1 ⟨rfl, rfl⟩;rw [HH.out];go_wp2;go_ret;exact ⟨ret_bool HL.out.symm, HB0.out⟩
  ·have HL : Hid (oneB ⟨k, X.data.toList, cs⟩ = false) := by show oneB _ = false; unfold oneB; rw [if_neg h1, if_neg h23]
   have h2' := int_ne (fun h => h23 (Or.inl h) : ¬ k = 2);have h3' := int_ne (fun h => h23 (Or.inr h) : ¬ k = 3)
   go_enter Tryz.func145, Tryz.ntmps145
   go_wp2;go_ret;exact ⟨ret_bool HL.out.symm, HB0.out⟩
end Go.Proofs.YtcnfcililiehlaaGreatDoor
namespace Go.Proofs.YtcnfcililiehlaaGreatDoor
open Go.RowKit
theorem all_take {α : Type} {p : α -> Bool} {l : List α} {k : Nat} (hk : k < l.length) (h : (l.take k).all p = true) : (l.take (k + 1)).all p = p l[k] := by
 rw [List.take_succ_eq_append_getElem hk, List.all_append, h]; simp
theorem all_miss {α : Type} {p : α -> Bool} {l : List α} {k : Nat} (hk : k < l.length) (h : p l[k] = false) : l.all p = false :=
 List.all_eq_false.2 ⟨_, List.getElem_mem hk, by simp [h]⟩
set_option maxRecDepth 100000 in
set_option maxHeartbeats 4000000 in
theorem refRight6_any (v : Value) (ps : List AP) (w : World) (hR : RdA w v ps) (hl : ps.length <= 4611686018427387904) :
 Calls Tryz.prog 95 #[v] w fun e w' => e = .returned (.bool (rightA (ps.map Prod.fst))) /\ Below w.heap.size w w' := by
 obtain ⟨A, c, rfl⟩ := hR.form;have HR := Lib.hid hR; clear hR;have hr : rightA (ps.map Prod.fst) = (decide (1 <= ps.length /\ ps.length <= 8) && ps.all (fun p => oneB p.1)) := by
  unfold rightA; rw [List.length_map, List.all_map]; rfl
 rw [hr];obtain ⟨n, hn⟩ : ∃ n, ps.length = n := ⟨_, rfl⟩
 have HN := Lib.hid hn;rw [hn] at hl HR ⊢;clear hn hr;have HB0 : Hid (Below w.heap.size w w) := Below.refl _ _;by_cases h1 : 1 <= n;rotate_left
 ·have hd : decide (1 <= n /\ n <= 8) = false := decide_eq_false (by omega);rw [hd, Bool.false_and];have h1' : (n : Int) < 1 := by omega
  clear hd
  go_enter Tryz.func95, Tryz.ntmps95
  go_wp2;go_ret;exact ⟨rfl, HB0.out⟩
 by_cases h8 : n <= 8;rotate_left
 ·have hd : decide (1 <= n /\ n <= 8) = false := decide_eq_false (by omega);rw [hd, Bool.false_and];have h1' : ¬ (n : Int) < 1 := by omega
  have h8' : (8 : Int) < (n : Int) := by omega
  clear hd
  go_enter Tryz.func95, Tryz.ntmps95
  go_wp2;go_ret;exact ⟨rfl, HB0.out⟩
 have hd : decide (1 <= n /\ n <= 8) = true := decide_eq_true ⟨h1, h8⟩;rw [hd, Bool.true_and];have h1' : ¬ (n : Int) < 1 := by omega
 have h8' : ¬ (8 : Int) < (n : Int) := by omega
 clear hd
 go_enter Tryz.func95, Tryz.ntmps95
 go_wp2
 go_loopw [2, 3] (fun x i wr => x = .bool false /\ ∃ k : Nat, k <= n /\ Hid ((ps.take k).all (fun p => oneB p.1) = true) /\ Below w.heap.size w wr /\ i = .int .i64 k) (fun _ i _ => n - (intOf i).toNat)
 case atStart => exact ⟨rfl, 0, by omega, rfl, HB0.out, rfl⟩
 case round =>
  obtain ⟨rfl, k, hk, HT, hb, rfl⟩ := hrel;have HBW := Lib.hid hb;by_cases hkn : k < n
  ·have hkc : k < ps.length := by rw [HN.out]; exact hkn
   obtain ⟨b, o, rfl, _, c0, c1, c2, hA⟩ := (HR.out.below hb).at_ hkc;have hat := all_take hkc HT.out;have hmiss := all_miss (p := fun p : AP => oneB p.1) hkc;generalize ps[k] = x at *
   obtain ⟨⟨xk, xn, xe⟩, xv⟩ := x;obtain ⟨X, hX, hXl⟩ := bstr_some xn;simp only at c0 c1 c2 hat hmiss;rw [hX] at c1;have hA1 := hA.rd;have hA2 := hA.len;have hA3 := hA.names;have hA4 := hA.name;simp only at hA1 hA2 hA3 hA4;clear hA hb;obtain ⟨Ax, cx, rfl⟩ := hA1.slice;have hO := refOne_any xk X _ xe wr hA1 hA2 hA3 (by rw [Lib.size_eq, hXl]; omega);rw [hXl] at hO;cases ho : oneB ⟨xk, xn, xe⟩ with
   | false =>
    rw [ho] at hO;have HO := Lib.hid hO;have HL := Lib.hid (hmiss ho);clear hat hmiss hO hA1 hA2 hA3 hA4 hX hXl ho
    go_wp2_with fail
    refine HO.out.mono ?_;rintro e w1 ⟨rfl, hb1⟩;have HB1 := Lib.hid (HBW.out.trans (hb1.mono HBW.out.size)); clear hb1;go_wp2;go_ret;exact ⟨ret_bool HL.out.symm, HB1.out⟩
   | true =>
    rw [ho] at hO;have HO := Lib.hid hO;have HL := Lib.hid (hat.trans ho);clear hat hmiss hO hA1 hA2 hA3 hA4 hX hXl ho
    go_wp2_with fail
    refine HO.out.mono ?_;rintro e w1 ⟨rfl, hb1⟩;have HB1 := Lib.hid (HBW.out.trans (hb1.mono HBW.out.size)); clear hb1;go_wp2
    go_roundw
    case rel => exact ⟨rfl, k + 1, by omega, HL.out, HB1.out, by go_num⟩
    case measure => simp [intOf]; omega
  ·obtain rfl : k = n := by omega
   have HL : Hid (ps.all (fun p => oneB p.1) = true) := by
    have h := HT.out;rw [List.take_of_length_le (by rw [HN.out]; exact Nat.le_refl _)] at h;exact h
   go_wp2;go_ret;exact ⟨ret_bool HL.out.symm, HBW.out⟩
end Go.Proofs.YtcnfcililiehlaaGreatDoor
