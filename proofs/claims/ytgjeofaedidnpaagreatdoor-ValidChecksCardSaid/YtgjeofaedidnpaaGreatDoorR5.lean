/- Own texts, joined: Ip, Va, FE, FI, Vb, Vp, Vg, Ev, A1, A2. -/
import Derived.Test.YtgjeofaedidnpaaGreatDoorR2
import Derived.Test.YtgjeofaedidnpaaGreatDoorR3
import Derived.Test.YtgjeofaedidnpaaGreatDoorR4
import Derived.Lib.SplitLaws
import Derived.Lib.Split
import Derived.Lib.IndexBytes
import Derived.Lib.Join
namespace Go.Proofs.YtgjeofaedidnpaaGreatDoor
open Go.RowKit
def ixP {α : Type} (p : α -> Bool) : List α -> Nat -> Int
 | [], _ => -1
 | x :: r, i => if p x = true then i else ixP p r (i + 1)
theorem ix_step {α : Type} {p : α -> Bool} {l : List α} {k : Nat} (hk : k < l.length) : ixP p (l.drop k) k = if p l[k] = true then (k : Int) else ixP p (l.drop (k + 1)) (k + 1) := by
 rw [List.drop_eq_getElem_cons hk]; rfl
theorem ix_end {α : Type} {p : α -> Bool} {l : List α} {k : Nat} (hk : ¬ k < l.length) : ixP p (l.drop k) k = -1 := by
 rw [List.drop_of_length_le (by omega)]; rfl
theorem ix_find {α : Type} (p : α -> Bool) : ∀ (l : List α) (i : Nat), (ixP p l i = -1 /\ l.find? p = none) \/ ∃ j, ∃ h : j < l.length, ixP p l i = ((i + j : Nat) : Int) /\ l.find? p = some l[j]
 | [], i => Or.inl ⟨rfl, rfl⟩
 | x :: r, i => by
  by_cases hx : p x = true
  ·refine Or.inr ⟨0, by simp, ?_, ?_⟩
   ·unfold ixP; rw [if_pos hx]; rfl
   ·simp [hx]
  ·have e1 : ixP p (x :: r) i = ixP p r (i + 1) := if_neg hx;have e2 : (x :: r).find? p = r.find? p := by simp [hx]
   rw [e1, e2];rcases ix_find p r (i + 1) with h | ⟨j, hj, h1, h2⟩
   ·exact Or.inl h
   ·exact Or.inr ⟨j + 1, by simp; omega, by rw [h1]; congr 1; omega, by rw [h2]; rfl⟩
def isN (n : List UInt8) (x : List UInt8) : Bool := decide (x = n)
theorem ix_mem (l : List (List UInt8)) (n : List UInt8) : decide (0 <= ixP (isN n) l 0) = decide (n ∈ l) := by
 rcases ix_find (isN n) l 0 with ⟨h1, h2⟩ | ⟨j, hj, h1, h2⟩
 ·rw [h1];have : n ∉ l := by
   intro hm;have := List.find?_eq_none.1 h2 n hm;simp [isN] at this
  simp [this]
 ·rw [h1];have := List.find?_some h2;simp [isN] at this;have hm : n ∈ l := by rw [<- this]; exact List.getElem_mem _
  simp [hm]
theorem ix_range {α : Type} (p : α -> Bool) (l : List α) : ixP p l 0 = -1 \/ (0 <= ixP p l 0 /\ ixP p l 0 < l.length) := by
 rcases ix_find p l 0 with ⟨h1, h2⟩ | ⟨j, hj, h1, h2⟩
 ·exact Or.inl h1
 ·right; rw [h1]; omega
theorem str_ne {X Y : ByteArray} (h : X.data.toList ≠ Y.data.toList) : (X.toList == Y.toList) = false := by
 rw [Lib.toList_data, Lib.toList_data]; exact beq_eq_false_iff_ne.2 h
theorem str_eq {X Y : ByteArray} (h : X.data.toList = Y.data.toList) : X = Y := by apply ByteArray.ext; exact Array.toList_inj.1 h
theorem bstr_some (l : List UInt8) : ∃ X : ByteArray, bstr l = .string X /\ X.data.toList = l := ⟨⟨l.toArray⟩, rfl, rfl⟩
set_option maxHeartbeats 1000000 in
theorem strIndex_any (v : Value) (xs : List (List UInt8)) (N : ByteArray) (w : World) (hR : RdW w v xs) (hl : xs.length <= 9223372036854775807) :
 Calls Tryz.prog 121 #[v, .string N] w fun e w' => e = .returned (.int .i64 (ixP (isN N.data.toList) xs 0)) /\ w = w' := by
 obtain ⟨A, c, rfl⟩ := hR.form;have HR := Lib.hid hR; clear hR;obtain ⟨n, hn⟩ : ∃ n, xs.length = n := ⟨_, rfl⟩
 have HN := Lib.hid hn;rw [hn] at hl HR ⊢;clear hn
 go_enter Tryz.func121, Tryz.ntmps121
 go_wp2
 go_loop [4, 5, 8] (fun x4 x5 i => x4 = .int .i64 0 /\ (x5 = .int .i64 0 \/ True) /\ ∃ k : Nat, k <= n /\ i = .int .i64 k /\ Hid (ixP (isN N.data.toList) (xs.drop k) k = ixP (isN N.data.toList) xs 0)) (fun _ _ i => n - (intOf i).toNat)
 case atStart => exact ⟨rfl, Or.inr trivial, 0, by omega, rfl, rfl⟩
 case round =>
  obtain ⟨rfl, _, k, hk, rfl, HI⟩ := hrel;by_cases hkn : k < n
  ·obtain ⟨b, o, rfl, _, hc⟩ := HR.out.at_ (k := k) (by rw [HN.out]; exact hkn);have hst := ix_step (p := isN N.data.toList) (l := xs) (k := k) (by rw [HN.out]; exact hkn);rw [HI.out] at hst;obtain ⟨X, hX, hXl⟩ := bstr_some (xs[k]'(by rw [HN.out]; exact hkn));rw [hX] at hc;rw [<- hXl] at hst;clear hX hXl;by_cases he : X.data.toList = N.data.toList
   ·obtain rfl := str_eq he;have hr : ixP (isN X.data.toList) xs 0 = k := by rw [hst, if_pos (by simp [isN])]
    have HRR := Lib.hid hr;clear hst hr he HI;go_wp2;go_ret;exact ⟨ret_int HRR.out.symm, rfl⟩
   ·have hr : ixP (isN N.data.toList) (xs.drop (k + 1)) (k + 1) = ixP (isN N.data.toList) xs 0 := by rw [hst, if_neg (by simp [isN, he])]
    have HRR := Lib.hid hr;have hne := str_ne he;have hne' := str_ne (Ne.symm he);clear hst hr he HI;go_wp2
    go_round
    case rel => exact ⟨rfl, Or.inr trivial, k + 1, by omega, by go_num, HRR.out⟩
    case measure => simp [intOf]; omega
  ·have hr : ixP (isN N.data.toList) xs 0 = -1 := by rw [<- HI.out, ix_end (by rw [HN.out]; exact hkn)]
   have HRR := Lib.hid hr;clear hr HI;go_wp2;go_ret;exact ⟨ret_int HRR.out.symm, rfl⟩
theorem strContains_any (v : Value) (xs : List (List UInt8)) (N : ByteArray) (w : World) (hR : RdW w v xs) (hl : xs.length <= 9223372036854775807) :
 Calls Tryz.prog 84 #[v, .string N] w fun e w' => e = .returned (.bool (decide (N.data.toList ∈ xs))) /\ w = w' := by
 have HI := Lib.hid (strIndex_any v xs N w hR hl);have HM := Lib.hid (ix_mem xs N.data.toList);clear hR
 go_enter Tryz.func84, Tryz.ntmps84
 go_wp2_with fail
 refine HI.out.mono ?_;rintro e w1 ⟨rfl, rfl⟩;go_wp2;go_ret;exact ⟨ret_bool HM.out, rfl⟩
set_option maxHeartbeats 1000000 in
theorem refHas_any (v : Value) (xs : List (List UInt8)) (N : ByteArray) (w : World) (hR : RdW w v xs) (hl : xs.length <= 9223372036854775807) :
 Calls Tryz.prog 60 #[v, .string N] w fun e w' => e = .returned (.bool (decide (N.data.toList ∈ xs))) /\ w = w' := by
 obtain ⟨A, c, rfl⟩ := hR.form;have HR := Lib.hid hR; clear hR;have HM := Lib.hid (ix_mem xs N.data.toList);obtain ⟨n, hn⟩ : ∃ n, xs.length = n := ⟨_, rfl⟩
 have HN := Lib.hid hn;rw [hn] at hl HR ⊢;clear hn
 go_enter Tryz.func60, Tryz.ntmps60
 go_wp2
 go_loop [4, 5] (fun x4 i => x4 = .bool false /\ ∃ k : Nat, k <= n /\ i = .int .i64 k /\ Hid (ixP (isN N.data.toList) (xs.drop k) k = ixP (isN N.data.toList) xs 0)) (fun _ i => n - (intOf i).toNat)
 case atStart => exact ⟨rfl, 0, by omega, rfl, rfl⟩
 case round =>
  obtain ⟨rfl, k, hk, rfl, HI⟩ := hrel;by_cases hkn : k < n
  ·obtain ⟨b, o, rfl, _, hc⟩ := HR.out.at_ (k := k) (by rw [HN.out]; exact hkn);have hst := ix_step (p := isN N.data.toList) (l := xs) (k := k) (by rw [HN.out]; exact hkn);rw [HI.out] at hst;obtain ⟨X, hX, hXl⟩ := bstr_some (xs[k]'(by rw [HN.out]; exact hkn));rw [hX] at hc;rw [<- hXl] at hst;clear hX hXl;by_cases he : X.data.toList = N.data.toList
   ·obtain rfl := str_eq he;have hr : decide (X.data.toList ∈ xs) = true := by rw [<- HM.out, hst, if_pos (by simp [isN])]; simp
    have HRR := Lib.hid hr;clear hst hr he HI;go_wp2;go_ret;exact ⟨ret_bool HRR.out.symm, rfl⟩
   ·have hr : ixP (isN N.data.toList) (xs.drop (k + 1)) (k + 1) = ixP (isN N.data.toList) xs 0 := by rw [hst, if_neg (by simp [isN, he])]
    have HRR := Lib.hid hr;have hne := str_ne he;have hne' := str_ne (Ne.symm he);clear hst hr he HI;go_wp2
    go_round
    case rel => exact ⟨rfl, k + 1, by omega, by go_num, HRR.out⟩
    case measure => simp [intOf]; omega
  ·have hr : decide (N.data.toList ∈ xs) = false := by rw [<- HM.out, <- HI.out, ix_end (by rw [HN.out]; exact hkn)]; rfl
   have HRR := Lib.hid hr;clear hr HI;go_wp2;go_ret;exact ⟨ret_bool HRR.out.symm, rfl⟩
end Go.Proofs.YtgjeofaedidnpaaGreatDoor
namespace Go.Proofs.YtgjeofaedidnpaaGreatDoor
structure VA where
 kd : Int
 a : Int
 b : Int
def inB (n : Int) : Bool := decide (-1048576 <= n /\ n <= 1048576)
def rightV (v : VA) : Bool :=
 if v.kd = 1 then decide (v.b = 0) else if v.kd = 2 then decide (v.b = 0) && (decide (v.a = 0) || decide (v.a = 1)) else if v.kd = 3 then inB v.a && inB v.b else false
def isV (n : List UInt8) (v : VM) : Bool := decide (v.nm = n)
end Go.Proofs.YtgjeofaedidnpaaGreatDoor
namespace Go.Proofs.YtgjeofaedidnpaaGreatDoor
def begN : List CM -> Nat -> Nat
 | [], _ => 1000
 | c :: r, want => if want - 1 + operN c.op = 0 then 1 else 1 + begN r (want - 1 + operN c.op)
theorem beg_cons (c : CM) (r : List CM) (want : Nat) : begN (c :: r) want = if want - 1 + operN c.op = 0 then 1 else 1 + begN r (want - 1 + operN c.op) := rfl
theorem beg_tree {t : T} (h : OkT t) : ∀ (r : List CM) (k : Nat), begN ((post t).reverse ++ r) (k + 1) = if k = 0 then (post t).length else (post t).length + begN r k := by
 induction t with
 | leaf c =>
  intro r k;show begN (c :: r) (k + 1) = _;rw [beg_cons, h.2, Nat.add_sub_cancel, Nat.add_zero];rfl
 | un o t ih =>
  intro r k;have e : (post (.un o t)).reverse ++ r = opC o :: ((post t).reverse ++ r) := by simp [post]
  have hl : (post (.un o t)).length = 1 + (post t).length := by simp [post]; omega
  rw [e, hl];rw [beg_cons, show operN (opC o).op = 1 from operN_un ⟨h.1, h.2.1⟩, Nat.add_sub_cancel, if_neg (by omega), ih h.2.2 r k];split <;> omega
 | bin o l r' ihl ihr =>
  intro r k;have e : (post (.bin o l r')).reverse ++ r = opC o :: ((post r').reverse ++ ((post l).reverse ++ r)) := by simp [post]
  have hl : (post (.bin o l r')).length = 1 + (post r').length + (post l).length := by simp [post]; omega
  rw [e, hl];rw [beg_cons, show operN (opC o).op = 2 from operN_bin ⟨h.1, h.2.1⟩, Nat.add_sub_cancel, if_neg (by omega), ihr h.2.2.2 _ (k + 1), if_neg (by omega), ihl h.2.2.1 r k];split <;> omega
end Go.Proofs.YtgjeofaedidnpaaGreatDoor
namespace Go.Proofs.YtgjeofaedidnpaaGreatDoor
open Go.RowKit
theorem begN_pos (l : List CM) (k : Nat) : 1 <= begN l k := by
 cases l with
 | nil => show 1 <= 1000; omega
 | cons c r => rw [beg_cons]; split <;> omega
theorem beg_step {cs : List CM} {k v p : Nat} (hk : k < cs.length) (hp : p <= k) (h : begN (cs.take (k + 1)).reverse v = k + 1 - p) :
 (v - 1 + operN (cs[k]).op = 0 -> k = p) /\ (v - 1 + operN (cs[k]).op ≠ 0 -> p < k /\ begN (cs.take (k - 1 + 1)).reverse (v - 1 + operN (cs[k]).op) = k - 1 + 1 - p) := by
 rw [List.take_succ_eq_append_getElem hk, List.reverse_append] at h
 change begN (cs[k] :: (cs.take k).reverse) v = _ at h
 rw [beg_cons] at h;refine ⟨fun h0 => by rw [if_pos h0] at h; omega, fun h0 => ?_⟩;rw [if_neg h0] at h;have h1 := begN_pos (cs.take k).reverse (v - 1 + operN (cs[k]).op);by_cases hk0 : k = 0
 ·subst hk0;have : begN (cs.take 0).reverse (v - 1 + operN (cs[0]).op) = 1000 := rfl;omega
 ·have e : k - 1 + 1 = k := by omega
  rw [e];exact ⟨by omega, by omega⟩
set_option maxRecDepth 100000 in
set_option maxHeartbeats 2000000 in
theorem begin_any (v : Value) (cs : List CM) (w : World) (hR : RdC w v cs) (hF : ∀ c ∈ cs, formedB c = true) (hl : cs.length <= 32) (p e : Nat) (he : e < cs.length) (hp : p <= e) (hb : begN (cs.take (e + 1)).reverse 1 = e + 1 - p) :
 Calls Tryz.prog 140 #[v, .int .i64 e] w fun x w' => x = .returned (.int .i64 p) /\ Below w.heap.size w w' := by
 obtain ⟨A, c, rfl, hr⟩ := hR;have HR := Lib.hid hr; have HF := Lib.hid hF; have HBEG := Lib.hid hb; clear hr hF hb;obtain ⟨n, hn⟩ : ∃ n, cs.length = n := ⟨_, rfl⟩
 have HN := Lib.hid hn;rw [hn] at hl he ⊢;clear hn
 go_enter Tryz.func140, Tryz.ntmps140
 go_wp2
 go_loopw [4, 5, 6] (fun x4 want i wr => x4 = .int .i64 0 /\ ∃ k vs : Nat, k <= e /\ p <= k /\ 1 <= vs /\ vs + k <= e + 1 /\ want = .int .i64 vs /\ i = .int .i64 k /\ Hid (begN (cs.take (k + 1)).reverse vs = k + 1 - p) /\ Below w.heap.size w wr) (fun _ _ i _ => (intOf i).toNat)
 case atStart => exact ⟨rfl, e, 1, by omega, hp, by omega, by omega, rfl, rfl, HBEG, Below.refl _ _⟩
 case round =>
  obtain ⟨rfl, k, vs, hke, hpk, hv1, hvk, rfl, rfl, HB, hb⟩ := hrel;have HBL := Lib.hid hb;have hkn : k < n := by omega
  obtain ⟨b, o, rfl, d0, d1, d2⟩ := HR.out k (by rw [HN.out]; exact hkn);have hstep := beg_step (cs := cs) (k := k) (v := vs) (p := p) (by rw [HN.out]; exact hkn) hpk HB.out;have hfm := HF.out (cs[k]'(by rw [HN.out]; exact hkn)) (List.getElem_mem _);obtain ⟨cc, hcc⟩ : ∃ cc, cs[k]'(by rw [HN.out]; exact hkn) = cc := ⟨_, rfl⟩
  rw [hcc] at d0 d1 d2 hstep hfm;have hnm := formed_name hfm;have e0 := (hb.cell (cell_lt d0)).trans d0;have e1 := (hb.cell (cell_lt d1)).trans d1;have e2 := (hb.cell (cell_lt d2)).trans d2;have hon := operN_le cc.op;obtain ⟨X, hX⟩ : ∃ X : ByteArray, bstr cc.nm = .string X := ⟨_, rfl⟩
  have hops := fun W => refOperands_any cc W (by omega)
  rw [hX, opsR_yes hfm] at hops;rw [hX] at e2;have HOP := Lib.hid hops;have HST := Lib.hid hstep;clear d0 d1 d2 hcc hb hX hfm hops hstep hnm;generalize operN cc.op = on at *
  by_cases hz : vs - 1 + on = 0
  ·have hkp := Lib.hid (HST.out.1 hz);have hz' : ((vs : Int) - 1 + (on : Int) == 0) = true := by simp; omega
   clear hz
   go_wp2_with fail
   refine (HOP.out _).mono ?_;rintro x w2 ⟨rfl, hb2⟩;have HB2 := Lib.hid (HBL.out.trans (hb2.mono HBL.out.size)); clear hb2;go_wp2;go_ret;exact ⟨ret_int (show (k : Int) = (p : Int) by rw [hkp.out]), HB2.out⟩
  ·obtain ⟨hkp, hnx⟩ := HST.out.2 hz;have HNX := Lib.hid hnx;have hz' : ((vs : Int) - 1 + (on : Int) == 0) = false := by simp; omega
   have hv1' : 1 <= vs - 1 + on := by omega
   clear hz hnx
   go_wp2_with fail
   refine (HOP.out _).mono ?_;rintro x w2 ⟨rfl, hb2⟩;have HB2 := Lib.hid (HBL.out.trans (hb2.mono HBL.out.size)); clear hb2;go_wp2
   go_roundw
   case rel => exact ⟨rfl, k - 1, vs - 1 + on, by omega, by omega, by omega, by omega, by congr 1; omega, by congr 1; omega, HNX, HB2.out⟩
   case measure => simp [intOf]; omega
end Go.Proofs.YtgjeofaedidnpaaGreatDoor
namespace Go.Proofs.YtgjeofaedidnpaaGreatDoor
open Go.RowKit
@[go_sem] theorem run_store_complex (P : Program) (w : World) (a : Addr) (m : Mode) (k : FloatKind) (x y : Nat) : (store a (.complex k x y) m).run P w = stored P w a (.complex k x y) m := run_store P w a _ m rfl
def fl (a : Int) : Nat := floatOfInt .f64 a
end Go.Proofs.YtgjeofaedidnpaaGreatDoor
namespace Go.Proofs.YtgjeofaedidnpaaGreatDoor
open Go.RowKit
theorem vwithin_any (n : Int) (w : World) :
 Calls Tryz.prog 161 #[.int .i64 n] w fun e w' => e = .returned (.bool (inB n)) /\ w = w' := by
 by_cases h1 : -1048576 <= n
 ·by_cases h2 : n <= 1048576
  ·have hL : inB n = true := decide_eq_true ⟨h1, h2⟩;rw [hL]; clear hL
   go_enter Tryz.func161, Tryz.ntmps161
   go_wp2;go_ret;exact ⟨rfl, rfl⟩
  ·have hL : inB n = false := decide_eq_false (fun h => h2 h.2);rw [hL]; clear hL
   go_enter Tryz.func161, Tryz.ntmps161
   go_wp2;go_ret;exact ⟨rfl, rfl⟩
 ·have hL : inB n = false := decide_eq_false (fun h => h1 h.1);rw [hL]; clear hL
  go_enter Tryz.func161, Tryz.ntmps161
  go_wp2;go_ret;exact ⟨rfl, rfl⟩
def outC (a b : Int) : Ending := if (inB a && inB b) = true then .returned (.tuple #[.complex .f64 (fl a) (fl b), .int .i64 0]) else .returned (.tuple #[.complex .f64 0 0, .int .i64 5])
theorem outC_ok {a b : Int} (h : (inB a && inB b) = true) : outC a b = .returned (.tuple #[.complex .f64 (fl a) (fl b), .int .i64 0]) := if_pos h
theorem outC_no {a b : Int} (h : ¬ (inB a && inB b) = true) : outC a b = .returned (.tuple #[.complex .f64 0 0, .int .i64 5]) := if_neg h
theorem made_any (a b : Int) (w : World) :
 Calls Tryz.prog 128 #[.int .i64 a, .int .i64 b] w fun e w' => e = outC a b /\ w = w' := by
 by_cases h : (inB a && inB b) = true
 ·rw [outC_ok h];simp only [Bool.and_eq_true] at h;obtain ⟨ha, hb⟩ := h
  go_enter Tryz.func128, Tryz.ntmps128
  go_wp2_with (go_at_call 161; refine (vwithin_any _ _).mono ?_; rintro e w' ⟨rfl, rfl⟩)
  go_ret2;exact ⟨rfl, rfl⟩
 ·rw [outC_no h];cases ha : inB a
  ·clear h
   go_enter Tryz.func128, Tryz.ntmps128
   go_wp2_with (go_at_call 161; refine (vwithin_any _ _).mono ?_; rintro e w' ⟨rfl, rfl⟩)
   go_ret2;exact ⟨rfl, rfl⟩
  ·rw [ha, Bool.true_and] at h;simp only [Bool.not_eq_true] at h
   go_enter Tryz.func128, Tryz.ntmps128
   go_wp2_with (go_at_call 161; refine (vwithin_any _ _).mono ?_; rintro e w' ⟨rfl, rfl⟩)
   go_ret2;exact ⟨rfl, rfl⟩
theorem outC_form (a b : Int) : ∃ c1 c2 er, outC a b = .returned (.tuple #[.complex .f64 c1 c2, .int .i64 er]) := by
 unfold outC;split
 ·exact ⟨_, _, _, rfl⟩
 ·exact ⟨_, _, _, rfl⟩
end Go.Proofs.YtgjeofaedidnpaaGreatDoor
namespace Go.Proofs.YtgjeofaedidnpaaGreatDoor
open Go.RowKit
theorem evRight_any (v : VA) (w : World) :
 Calls Tryz.prog 90 #[.agg #[.int .i64 v.kd, .int .i64 v.a, .int .i64 v.b]] w fun e w' => e = .returned (.bool (rightV v)) /\ Below w.heap.size w w' := by
 obtain ⟨k, a, b⟩ := v;have HB : Hid (∀ W : World, ∀ o : Obj, Below W.heap.size W (W.alloc o)) := fun W o => (Below.refl _ _).alloc (Nat.le_refl _) o
 show Calls _ _ #[.agg #[.int .i64 k, .int .i64 a, .int .i64 b]] _ _;by_cases h1 : k = 1
 ·subst h1;have e : rightV ⟨1, a, b⟩ = decide (b = 0) := rfl;rw [e];by_cases hb : b = 0
  ·rw [decide_eq_true hb]; subst hb
   go_enter Tryz.func90, Tryz.ntmps90
   go_wp2;go_ret;exact ⟨rfl, HB.out _ _⟩
  ·rw [decide_eq_false hb]; have tb := int_ne hb
   go_enter Tryz.func90, Tryz.ntmps90
   go_wp2;go_ret;exact ⟨rfl, HB.out _ _⟩
 ·have t1 := int_ne h1;by_cases h2 : k = 2
  ·subst h2;have e : rightV ⟨2, a, b⟩ = (decide (b = 0) && (decide (a = 0) || decide (a = 1))) := rfl;rw [e];clear e h1;by_cases hb : b = 0
   ·rw [decide_eq_true hb]; subst hb;by_cases h0 : a = 0
    ·subst h0
     go_enter Tryz.func90, Tryz.ntmps90
     go_wp2;go_ret;exact ⟨rfl, HB.out _ _⟩
    ·rw [decide_eq_false h0]; have ta := int_ne h0;by_cases h1 : a = 1
     ·subst h1
      go_enter Tryz.func90, Tryz.ntmps90
      go_wp2;go_ret;exact ⟨rfl, HB.out _ _⟩
     ·rw [decide_eq_false h1]; have ta1 := int_ne h1
      go_enter Tryz.func90, Tryz.ntmps90
      go_wp2;go_ret;exact ⟨rfl, HB.out _ _⟩
   ·rw [decide_eq_false hb]; have tb := int_ne hb
    go_enter Tryz.func90, Tryz.ntmps90
    go_wp2;go_ret;exact ⟨rfl, HB.out _ _⟩
  ·have t2 := int_ne h2;by_cases h3 : k = 3
   ·subst h3;have e : rightV ⟨3, a, b⟩ = (inB a && inB b) := rfl;rw [e];clear e h1 h2;obtain ⟨g1, g2, ge, hg⟩ := outC_form a b;have HOC := Lib.hid hg;have HA := Lib.hid (fun W => made_any a b W);have hge : (inB a && inB b) = (ge == 0) := by
     by_cases c : (inB a && inB b) = true
     ·rw [outC_ok c] at hg;simp at hg;rw [c, <- hg.2]; rfl
     ·rw [outC_no c] at hg;simp at hg;rw [(Bool.not_eq_true _).mp c, <- hg.2]; rfl
    rw [hge];clear hge hg
    go_enter Tryz.func90, Tryz.ntmps90
    go_wp2_with fail
    refine (HA.out _).mono ?_;rintro e w' ⟨rfl, rfl⟩;rw [HOC.out];go_wp2;go_ret;exact ⟨rfl, HB.out _ _⟩
   ·have t3 := int_ne h3;have e : rightV ⟨k, a, b⟩ = false := by
     show (if k = 1 then _ else if k = 2 then _ else if k = 3 then _ else false) = false;rw [if_neg h1, if_neg h2, if_neg h3]
    rw [e];clear e h1 h2 h3
    go_enter Tryz.func90, Tryz.ntmps90
    go_wp2;go_ret;exact ⟨rfl, HB.out _ _⟩
end Go.Proofs.YtgjeofaedidnpaaGreatDoor
namespace Go.Proofs.YtgjeofaedidnpaaGreatDoor
open Go.RowKit
def eventB (l : List UInt8) : Bool := nameB (Lib.trimPrefix l [100, 111, 110, 101, 46])
theorem event_any (s : ByteArray) (w : World) :
 Calls Tryz.prog 111 #[.string s] w fun e w' => e = .returned (.bool (eventB s.data.toList)) /\ w = w' := by
 go_enter Tryz.func111, Tryz.ntmps111
 go_wp2_with fail
 refine (Tryz.strings_TrimPrefix s ⟨#[100, 111, 110, 101, 46]⟩ w).mono ?_;rintro e w' ⟨rfl, rfl⟩
 go_wp2_with fail
 refine (name_any _ _).mono ?_;rintro e w' ⟨rfl, rfl⟩;go_wp2;go_ret;exact ⟨rfl, rfl⟩
theorem nameB_nodot {l : List UInt8} (h : nameB l = true) : ∀ c ∈ l, c ≠ 46 := by
 cases l with
 | nil => intro c hc; simp at hc
 | cons a r =>
  simp only [nameB, Bool.and_eq_true] at h;obtain ⟨⟨⟨_, ha⟩, hr⟩, _⟩ := h;intro c hc e;subst e;rcases List.mem_cons.1 hc with hc | hc
  ·subst hc; revert ha; decide
  ·have := List.all_eq_true.1 hr _ hc;revert this; decide
theorem hasPrefix_iff (l p : List UInt8) : Lib.hasPrefix l p = true ↔ l.take p.length = p := by
 unfold Lib.hasPrefix;rw [List.isPrefixOf_iff_prefix, List.prefix_iff_eq_take];exact ⟨fun h => h.symm, fun h => h.symm⟩
theorem nameB_done {l : List UInt8} (h : l.take 5 = [100, 111, 110, 101, 46]) : nameB l = false := by
 cases hn : nameB l
 ·rfl
 ·have hm : (46 : UInt8) ∈ l.take 5 := by rw [h]; decide
  exact absurd rfl (nameB_nodot hn 46 (List.mem_of_mem_take hm))
theorem eventB_name {l : List UInt8} (h : nameB l = true) : eventB l = true := by
 unfold eventB Lib.trimPrefix;rw [if_neg]
 ·exact h
 ·intro hp;have := nameB_done ((hasPrefix_iff _ _).1 hp);rw [h] at this; cases this
theorem eventB_short {l : List UInt8} (h : nameB l = false) (h5 : ¬ 5 < l.length) : eventB l = false := by
 unfold eventB Lib.trimPrefix;split
 ·rw [List.drop_of_length_le (by simp; omega)]; rfl
 ·exact h
theorem eventB_other {l : List UInt8} (h : nameB l = false) (h5 : l.take 5 ≠ [100, 111, 110, 101, 46]) : eventB l = false := by
 unfold eventB Lib.trimPrefix;rw [if_neg]
 ·exact h
 ·intro hp;exact h5 ((hasPrefix_iff _ _).1 hp)
theorem eventB_done {l : List UInt8} (h5 : l.take 5 = [100, 111, 110, 101, 46]) : eventB l = nameB (l.drop 5) := by
 unfold eventB Lib.trimPrefix;rw [if_pos ((hasPrefix_iff l [100, 111, 110, 101, 46]).2 h5)]; rfl
theorem refEvent_any (s : ByteArray) (w : World) (hs : s.size <= 281474976710656) :
 Calls Tryz.prog 137 #[.string s] w fun e w' => e = .returned (.bool (eventB s.data.toList)) /\ w = w' := by
 have hl : s.data.toList.length = s.size := (Lib.size_eq s).symm;cases hn : nameB s.data.toList
 ·by_cases h5 : 5 < s.size
  ·have et : (s.extract 0 5).data.toList = s.data.toList.take 5 := by rw [Lib.extract_data, List.drop_zero]
   have ed : (s.extract 5 s.size).data.toList = s.data.toList.drop 5 := by rw [Lib.extract_to_end]
   by_cases hd : s.data.toList.take 5 = [100, 111, 110, 101, 46]
   ·have hr := eventB_done hd;have ht : ((s.extract 0 5).toList == [100, 111, 110, 101, 46]) = true := by rw [Lib.toList_data, et, hd]; rfl
    have HR := Lib.hid hr;clear hr hd et ed
    go_enter Tryz.func137, Tryz.ntmps137
    go_wp2_with (go_at_call 16; refine (refName_any _ _).mono ?_; rintro e w' ⟨rfl, rfl⟩)
    go_ret;refine ⟨ret_bool ?_, rfl⟩;rw [HR.out, List.take_of_length_le (by rw [List.length_drop]; omega)]
   ·have hr := eventB_other hn hd;have ht : ((s.extract 0 5).toList == [100, 111, 110, 101, 46]) = false := by
     rw [Lib.toList_data, et]; exact beq_eq_false_iff_ne.2 hd
    have HR := Lib.hid hr;clear hr hd et ed
    go_enter Tryz.func137, Tryz.ntmps137
    go_wp2_with (go_at_call 16; refine (refName_any _ _).mono ?_; rintro e w' ⟨rfl, rfl⟩)
    go_ret;exact ⟨ret_bool HR.out.symm, rfl⟩
  ·have hr := eventB_short hn (by omega);have HR := Lib.hid hr;clear hr
   go_enter Tryz.func137, Tryz.ntmps137
   go_wp2_with (go_at_call 16; refine (refName_any _ _).mono ?_; rintro e w' ⟨rfl, rfl⟩)
   go_ret;exact ⟨ret_bool HR.out.symm, rfl⟩
 ·have hr := eventB_name hn;have HR := Lib.hid hr;clear hr
  go_enter Tryz.func137, Tryz.ntmps137
  go_wp2_with (go_at_call 16; refine (refName_any _ _).mono ?_; rintro e w' ⟨rfl, rfl⟩)
  go_ret;exact ⟨ret_bool HR.out.symm, rfl⟩
end Go.Proofs.YtgjeofaedidnpaaGreatDoor
namespace Go.Proofs.YtgjeofaedidnpaaGreatDoor
structure AM where
 kd : Int
 nm : List UInt8
 ex : List CM
def isIn (c : CM) : Bool := decide (c.op = 6)
def asksB (cs : List CM) : Bool := cs.any isIn
def oneB (a : AM) : Bool :=
 if a.kd = 1 then nameB a.nm && rightB a.ex && !asksB a.ex else if a.kd = 2 \/ a.kd = 3 then eventB a.nm && decide (a.ex.length = 0) else false
def rightA (l : List AM) : Bool := decide (1 <= l.length /\ l.length <= 8) && l.all oneB
def wRaise : List UInt8 := [114, 97, 105, 115, 101, 58]
def wSend : List UInt8 := [115, 101, 110, 100, 58]
def semis : List UInt8 -> List (List UInt8)
 | [] => [[]]
 | c :: r => if c = 59 then [] :: semis r else match semis r with
  | [] => [[c]]
  | p :: ps => (c :: p) :: ps
def readA (s : List UInt8) : AM :=
 if Lib.hasPrefix s wRaise = true then ⟨2, s.drop 6, []⟩ else if Lib.hasPrefix s wSend = true then ⟨3, s.drop 5, []⟩ else ⟨1, (Lib.cut s [61]).1, (parseP (Lib.cut s [61]).2.1).1⟩
def parseA (s : List UInt8) : List AM × Int :=
 if 6000 < s.length \/ 8 <= Lib.countByte s 59 then ([], 4) else if ((semis s).map readA).all oneB = true then ((semis s).map readA, 0) else ([], 1)
theorem at_index : ∀ {s : List UInt8} {c : UInt8} {i : Nat}, Lib.indexByte s c = i -> s = s.take i ++ c :: s.drop (i + 1) /\ ∀ x ∈ s.take i, x ≠ c
 | [], c, i, h => by simp [Lib.indexByte] at h
 | b :: l, c, i, h => by
  unfold Lib.indexByte at h;split at h
  ·rename_i hb
   have : i = 0 := by omega
   subst this;have := beq_iff_eq.1 hb;subst this;exact ⟨rfl, by simp⟩
  ·rename_i hb
   split at h
   ·omega
   ·rename_i hn
    have hg := Lib.indexByte_ge l c;have hn' : Lib.indexByte l c ≠ -1 := fun e => hn (by rw [e]; rfl)
    obtain ⟨k, hk⟩ : ∃ k : Nat, Lib.indexByte l c = k := ⟨(Lib.indexByte l c).toNat, by omega⟩
    have : i = k + 1 := by omega
    subst this;obtain ⟨h1, h2⟩ := at_index hk;refine ⟨?_, ?_⟩
    ·show b :: l = b :: (l.take k ++ c :: l.drop (k + 1));rw [<- h1]
    ·intro x hx;rw [List.take_succ_cons] at hx;rcases List.mem_cons.1 hx with rfl | hx
     ·intro e; subst e; exact hb (by simp)
     ·exact h2 x hx
theorem index_no : ∀ {s : List UInt8} {c : UInt8}, Lib.indexByte s c = -1 -> ∀ x ∈ s, x ≠ c
 | [], c, h => by simp
 | b :: l, c, h => by
  unfold Lib.indexByte at h;split at h
  ·omega
  ·rename_i hb
   split at h
   ·rename_i hn
    have hn := beq_iff_eq.1 hn;intro x hx;rcases List.mem_cons.1 hx with rfl | hx
    ·intro e; subst e; exact hb (by simp)
    ·exact index_no hn x hx
   ·have := Lib.indexByte_ge l c; omega
end Go.Proofs.YtgjeofaedidnpaaGreatDoor
namespace Go.Proofs.YtgjeofaedidnpaaGreatDoor
def mayB (v : VM) (x : VA) : Bool := decide (x.kd = v.kd) && decide (v.lo <= x.a /\ x.a <= v.hi) && (decide (x.kd ≠ 3) || decide (v.lo <= x.b /\ x.b <= v.hi))
end Go.Proofs.YtgjeofaedidnpaaGreatDoor
