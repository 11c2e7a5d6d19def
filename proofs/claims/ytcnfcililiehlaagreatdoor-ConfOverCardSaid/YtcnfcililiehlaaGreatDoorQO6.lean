import Derived.Test.YtcnfcililiehlaaGreatDoorR1
import Derived.Test.YtcnfcililiehlaaGreatDoorR2
import Derived.Test.YtcnfcililiehlaaGreatDoorR3
import Derived.Test.YtcnfcililiehlaaGreatDoorR4
import Derived.Test.YtcnfcililiehlaaGreatDoorR5
import Derived.Test.YtcnfcililiehlaaGreatDoorR6
import Derived.Test.YtcnfcililiehlaaGreatDoorR7
import Derived.Test.YtcnfcililiehlaaGreatDoorR8
import Derived.Test.YtcnfcililiehlaaGreatDoorR9
import Derived.Test.YtcnfcililiehlaaGreatDoorR10
import Derived.Test.YtcnfcililiehlaaGreatDoorR11
import Derived.Test.YtcnfcililiehlaaGreatDoorR12
import Derived.Test.YtcnfcililiehlaaGreatDoorR13
import Derived.Test.YtcnfcililiehlaaGreatDoorR14
import Derived.Test.YtcnfcililiehlaaGreatDoorR15
import Derived.Test.YtcnfcililiehlaaGreatDoorR16
import Derived.Test.YtcnfcililiehlaaGreatDoorR17
import Derived.Test.YtcnfcililiehlaaGreatDoorR18
import Derived.Test.YtcnfcililiehlaaGreatDoorR19
import Derived.Test.YtcnfcililiehlaaGreatDoorR20
import Derived.Test.YtcnfcililiehlaaGreatDoorR21
import Derived.Test.YtcnfcililiehlaaGreatDoorR22
import Derived.Test.YtcnfcililiehlaaGreatDoorR23
import Derived.Test.YtcnfcililiehlaaGreatDoorR24
import Derived.Test.YtcnfcililiehlaaGreatDoorR25
import Derived.Test.YtcnfcililiehlaaGreatDoorR26
import Derived.Test.YtcnfcililiehlaaGreatDoorR27
import Derived.Test.YtcnfcililiehlaaGreatDoorR28
import Derived.Test.YtcnfcililiehlaaGreatDoorR29
import Derived.Test.YtcnfcililiehlaaGreatDoorR30
import Derived.Test.YtcnfcililiehlaaGreatDoorR31
import Derived.Test.YtcnfcililiehlaaGreatDoorR32
import Derived.Test.YtcnfcililiehlaaGreatDoorR33
import Derived.Test.YtcnfcililiehlaaGreatDoorR34
import Derived.Test.YtcnfcililiehlaaGreatDoorR35
import Derived.Test.YtcnfcililiehlaaGreatDoorR36
import Derived.Test.YtcnfcililiehlaaGreatDoorQO1
import Derived.Test.YtcnfcililiehlaaGreatDoorQO2
import Derived.Test.YtcnfcililiehlaaGreatDoorQO3
import Derived.Test.YtcnfcililiehlaaGreatDoorQO4
import Derived.Test.YtcnfcililiehlaaGreatDoorQO5
import Derived.Laws.EntriesVeiled
namespace Go.Proofs.YtcnfcililiehlaaGreatDoor.Ch.Vd
open Go.RowKit
set_option maxRecDepth 100000
theorem cellsU810 : Tryz.prog.cellsOf 5 = 1 := by kernel_rfl
theorem bytesU810 : Tryz.prog.bytesOf 5 = 1 := by kernel_rfl
theorem weigh10 {H : Type} {ts : List TypeId} {ds : List (DataW H)} (hsz : (DataW.weightsEach Tryz.prog ts ds).all (· <= reachBytes) = true) {j : Nat} {t : TypeId} {d : DataW H} (ht : ts[j]? = some t) (hd : ds[j]? = some d) : ∀ x ∈ d.weights Tryz.prog t, x <= 140737488355328 := fun x hx => by
 have := List.all_eq_true.1 hsz _ (DataW.weights_mem_each ht hd x hx);unfold reachBytes at this;simp at this;omega
theorem u8s10 {H : Type} {enc : TypeId × Value -> H} {W : World} {n : Nat} {v : Value} {y : DataW H × List MemPlace} (h : DataW.trod enc Tryz.prog W 0 (fun _ => true) true n 37 [v] = some y) (hw : ∀ x ∈ y.1.weights Tryz.prog 37, x <= 140737488355328) :
 ∃ ps : List Nat, PsIn W v ps := by
 obtain ⟨rows, h1, h2, _⟩ := open_rows Tryz.underlying37 cellsU810 (by decide) h;rcases h2 with ⟨_, rfl⟩ | ⟨es, sp, hy, hl, hr⟩
 ·exact ⟨[], h1, (fun p hp => by cases hp), Nat.zero_le _⟩
 ·rw [hy] at hw;simp only [DataW.weights, Tryz.underlying37, List.mem_cons, List.mem_append] at hw;obtain ⟨l, rfl, hl2⟩ := rows_at (fun p : Nat => [Value.int .u8 (p : Int)]) (fun _ (p : Nat) => p < 256) rows 0 (fun i r hir => by
   obtain ⟨k, d, q, he, ht⟩ := hr i r hir;obtain ⟨z, h0, _, hwf⟩ := DataW.trod_int Tryz.underlying5 ht;have m1 : IntKind.u8.min = 0 := by kernel_rfl
   have m2 : IntKind.u8.max = 255 := by kernel_rfl
   simp only [Lit.wf, m1, m2, Bool.and_eq_true, decide_eq_true_eq] at hwf;exact ⟨z.toNat, by rw [h0, Int.toNat_of_nonneg hwf.1], by omega⟩)
  have hf : (l.map (fun p : Nat => [Value.int .u8 (p : Int)])).flatten = kvB l := by
   clear h1 hl hr hy hw hl2;unfold kvB
   induction l with
   | nil => rfl
   | cons x r ih => simpa using ih
  rw [hf, List.length_map] at h1;refine ⟨l, h1, fun p hp => ?_, ?_⟩
  ·obtain ⟨i, hi⟩ := List.getElem?_of_mem hp;exact hl2 i p hi
  ·have hm := hw ((es.length + sp.length) * Tryz.prog.bytesOf 5) (Or.inl rfl);rw [bytesU810] at hm;rw [List.length_map] at hl;omega
theorem open_u8s10 {H : Type} {enc : TypeId × Value -> H} {W : World} {v : Value} {d : DataW H} {ps : List MemPlace} {r : Reach} {b0 : Nat} (hval : Value.okWide Tryz.prog W r b0 37 v)
 (h : DataW.Trod enc Tryz.prog W 0 (fun _ => true) true 37 v d ps) {ts : List TypeId} {ds : List (DataW H)} (hsz : (DataW.weightsEach Tryz.prog ts ds).all (· <= reachBytes) = true) {j : Nat} (ht : ts[j]? = some 37) (hd : ds[j]? = some d) :
 ∃ l : List Nat, PsIn W v l := by
 obtain ⟨fuel, hf⟩ := h;obtain ⟨a0, len, cap, rfl⟩ := Go.WideShapes.okWide_slice Tryz.underlying37 hval;exact u8s10 (y := (d, ps)) hf (weigh10 hsz ht hd)
theorem PsIn.below {w w' : World} {u : Value} {ps : List Nat} (h : PsIn w u ps) (hb : Below w.heap.size w w') : PsIn w' u ps := ⟨h.inn.below hb, h.lt, h.len⟩
end Go.Proofs.YtcnfcililiehlaaGreatDoor.Ch.Vd
namespace Go.Proofs.YtcnfcililiehlaaGreatDoor.Ch.Vd
open Go.RowKit Go.Shelf
set_option maxRecDepth 100000
theorem ix_any (p : Nat -> Bool) (ks : List Nat) : decide (0 <= ixP p ks 0) = ks.any p := by
 rcases ix_find p ks 0 with ⟨h1, h2⟩ | ⟨j, hj, h1, h2⟩
 ·rw [h1, decide_eq_false (by omega)];symm;rw [Bool.eq_false_iff];intro h;obtain ⟨x, hx, hp⟩ := List.any_eq_true.1 h;exact absurd hp (by simpa using List.find?_eq_none.1 h2 x hx)
 ·rw [h1, decide_eq_true (by omega)];symm;exact List.any_eq_true.2 ⟨ks[j], List.getElem_mem hj, List.find?_some h2⟩
set_option maxHeartbeats 4000000 in
theorem index_ended {w : World} {u : Value} {ks : List Nat} (p : Nat -> Bool) (D : Nat) (hR : Tr.RdZ w u (Tr.toI ks)) (hl : ks.length <= 40)
 (hp : ∀ W x, Below w.heap.size w W -> x ∈ ks -> Calls Tryz.prog 65 #[.int .i64 (x : Nat), .pointer (some ⟨D, 0, none⟩), .pointer (some ⟨D + 1, 0, none⟩)] W fun e w' => e = .returned (.bool (p x)) /\ Below W.heap.size W w') :
 Calls Tryz.prog 101 #[u, .func (.func 65) #[] #[.pointer (some ⟨D, 0, none⟩), .pointer (some ⟨D + 1, 0, none⟩)]] w fun e w' => e = .returned (.int .i64 (ixP p ks 0)) /\ Below w.heap.size w w' := by
 obtain ⟨A, c, rfl⟩ := hR.form;have HR := Lib.hid hR; have HP := Lib.hid hp;have HTL := Lib.hid (Tr.toI_len ks);rw [HTL.out];obtain ⟨n, hn⟩ : ∃ n, ks.length = n := ⟨_, rfl⟩
 have HN := Lib.hid hn;simp only [HTL.out, hn] at hl HR ⊢;clear hn hR hp
 go_enter Tryz.func101, Tryz.ntmps101
 go_wp2
 go_loopw [4, 5, 8] (fun x4 x5 i wr => x4 = .int .i64 0 /\ (x5 = .int .i64 0 \/ True) /\ ∃ k : Nat, k <= n /\ i = .int .i64 k /\ Hid (ixP p (ks.drop k) k = ixP p ks 0) /\ Below w.heap.size w wr) (fun _ _ i _ => n - (intOf i).toNat)
 case atStart => exact ⟨rfl, Or.inr trivial, 0, by omega, rfl, rfl, Below.refl _ _⟩
 case round =>
  obtain ⟨rfl, _, k, hk, rfl, HI, hb⟩ := hrel;obtain ⟨wl, hwl⟩ : ∃ W, W = wr := ⟨_, rfl⟩
  subst hwl;have HBL := Lib.hid hb;by_cases hkn : k < n
  ·have hkm : k < ks.length := by rw [HN.out]; exact hkn
   obtain ⟨b, o, rfl, _, hc⟩ := (HR.out.below hb).at_ (k := k) (by rw [Tr.toI_len]; exact hkm);have hx : (Tr.toI ks)[k]'(by rw [Tr.toI_len]; exact hkm) = ((ks[k] : Nat) : Int) := by unfold Tr.toI; rw [List.getElem_map]
   rw [hx] at hc;have hst := ix_step (p := p) (l := ks) (k := k) hkm;rw [HI.out] at hst;have HC := Lib.hid (HP.out wl ks[k] hb (List.getElem_mem hkm));clear hx hb;generalize ks[k] = x at *
   cases he : p x with
   | true =>
    rw [if_pos he] at hst;rw [he] at HC;have HRR := Lib.hid hst;clear hst he HI
    go_wp2_with fail
    refine HC.out.mono ?_;rintro e w2 ⟨rfl, hb2⟩;have HB2 := Lib.hid (HBL.out.trans (hb2.mono HBL.out.size)); clear hb2;go_wp2;go_ret;exact ⟨ret_int HRR.out.symm, HB2.out⟩
   | false =>
    rw [if_neg (by rw [he]; simp)] at hst;rw [he] at HC;have HRR := Lib.hid hst.symm;clear hst he HI
    go_wp2_with fail
    refine HC.out.mono ?_;rintro e w2 ⟨rfl, hb2⟩;have HB2 := Lib.hid (HBL.out.trans (hb2.mono HBL.out.size)); clear hb2;go_wp2
    go_roundw
    case rel => exact ⟨rfl, Or.inr trivial, k + 1, by omega, by go_num, HRR.out, HB2.out⟩
    case measure => simp [intOf] <;> omega
  ·have hr : ixP p ks 0 = -1 := by rw [<- HI.out, ix_end (by rw [HN.out]; exact hkn)]
   have HRR := Lib.hid hr;clear hr HI hb;go_wp2;go_ret;exact ⟨ret_int HRR.out.symm, HBL.out⟩
theorem contains_ended {w : World} {u : Value} {ks : List Nat} (p : Nat -> Bool) (D : Nat) (hR : Tr.RdZ w u (Tr.toI ks)) (hl : ks.length <= 40)
 (hp : ∀ W x, Below w.heap.size w W -> x ∈ ks -> Calls Tryz.prog 65 #[.int .i64 (x : Nat), .pointer (some ⟨D, 0, none⟩), .pointer (some ⟨D + 1, 0, none⟩)] W fun e w' => e = .returned (.bool (p x)) /\ Below W.heap.size W w') :
 Calls Tryz.prog 67 #[u, .func (.func 65) #[] #[.pointer (some ⟨D, 0, none⟩), .pointer (some ⟨D + 1, 0, none⟩)]] w fun e w' => e = .returned (.bool (ks.any p)) /\ Below w.heap.size w w' := by
 have HI := Lib.hid (index_ended p D hR hl hp);have HM := Lib.hid (ix_any p ks);obtain ⟨A, c, rfl⟩ := hR.form;clear hR hp;rw [Tr.toI_len] at HI ⊢
 go_enter Tryz.func67, Tryz.ntmps67
 go_wp2_with fail
 refine HI.out.mono ?_;rintro e w1 ⟨rfl, hb1⟩;have HB := Lib.hid hb1; clear hb1;go_wp2;go_ret;exact ⟨ret_bool HM.out, HB.out⟩
set_option maxHeartbeats 4000000 in
theorem index_notover {w : World} {u : Value} {ks : List Nat} (p : Nat -> Bool) (D : Nat) (hR : Tr.RdZ w u (Tr.toI ks)) (hl : ks.length <= 40)
 (hp : ∀ W x, Below w.heap.size w W -> x ∈ ks -> Calls Tryz.prog 68 #[.int .i64 (x : Nat), .pointer (some ⟨D + 3, 0, none⟩)] W fun e w' => e = .returned (.bool (p x)) /\ Below W.heap.size W w') :
 Calls Tryz.prog 101 #[u, .func (.func 68) #[] #[.pointer (some ⟨D + 3, 0, none⟩)]] w fun e w' => e = .returned (.int .i64 (ixP p ks 0)) /\ Below w.heap.size w w' := by
 obtain ⟨A, c, rfl⟩ := hR.form;have HR := Lib.hid hR; have HP := Lib.hid hp;have HTL := Lib.hid (Tr.toI_len ks);rw [HTL.out];obtain ⟨n, hn⟩ : ∃ n, ks.length = n := ⟨_, rfl⟩
 have HN := Lib.hid hn;simp only [HTL.out, hn] at hl HR ⊢;clear hn hR hp
 go_enter Tryz.func101, Tryz.ntmps101
 go_wp2
 go_loopw [4, 5, 8] (fun x4 x5 i wr => x4 = .int .i64 0 /\ (x5 = .int .i64 0 \/ True) /\ ∃ k : Nat, k <= n /\ i = .int .i64 k /\ Hid (ixP p (ks.drop k) k = ixP p ks 0) /\ Below w.heap.size w wr) (fun _ _ i _ => n - (intOf i).toNat)
 case atStart => exact ⟨rfl, Or.inr trivial, 0, by omega, rfl, rfl, Below.refl _ _⟩
 case round =>
  obtain ⟨rfl, _, k, hk, rfl, HI, hb⟩ := hrel;obtain ⟨wl, hwl⟩ : ∃ W, W = wr := ⟨_, rfl⟩
  subst hwl;have HBL := Lib.hid hb;by_cases hkn : k < n
  ·have hkm : k < ks.length := by rw [HN.out]; exact hkn
   obtain ⟨b, o, rfl, _, hc⟩ := (HR.out.below hb).at_ (k := k) (by rw [Tr.toI_len]; exact hkm);have hx : (Tr.toI ks)[k]'(by rw [Tr.toI_len]; exact hkm) = ((ks[k] : Nat) : Int) := by unfold Tr.toI; rw [List.getElem_map]
   rw [hx] at hc;have hst := ix_step (p := p) (l := ks) (k := k) hkm;rw [HI.out] at hst;have HC := Lib.hid (HP.out wl ks[k] hb (List.getElem_mem hkm));clear hx hb;generalize ks[k] = x at *
   cases he : p x with
   | true =>
    rw [if_pos he] at hst;rw [he] at HC;have HRR := Lib.hid hst;clear hst he HI
    go_wp2_with fail
    refine HC.out.mono ?_;rintro e w2 ⟨rfl, hb2⟩;have HB2 := Lib.hid (HBL.out.trans (hb2.mono HBL.out.size)); clear hb2;go_wp2;go_ret;exact ⟨ret_int HRR.out.symm, HB2.out⟩
   | false =>
    rw [if_neg (by rw [he]; simp)] at hst;rw [he] at HC;have HRR := Lib.hid hst.symm;clear hst he HI
    go_wp2_with fail
    refine HC.out.mono ?_;rintro e w2 ⟨rfl, hb2⟩;have HB2 := Lib.hid (HBL.out.trans (hb2.mono HBL.out.size)); clear hb2;go_wp2
    go_roundw
    case rel => exact ⟨rfl, Or.inr trivial, k + 1, by omega, by go_num, HRR.out, HB2.out⟩
    case measure => simp [intOf] <;> omega
  ·have hr : ixP p ks 0 = -1 := by rw [<- HI.out, ix_end (by rw [HN.out]; exact hkn)]
   have HRR := Lib.hid hr;clear hr HI hb;go_wp2;go_ret;exact ⟨ret_int HRR.out.symm, HBL.out⟩
theorem contains_notover {w : World} {u : Value} {ks : List Nat} (p : Nat -> Bool) (D : Nat) (hR : Tr.RdZ w u (Tr.toI ks)) (hl : ks.length <= 40)
 (hp : ∀ W x, Below w.heap.size w W -> x ∈ ks -> Calls Tryz.prog 68 #[.int .i64 (x : Nat), .pointer (some ⟨D + 3, 0, none⟩)] W fun e w' => e = .returned (.bool (p x)) /\ Below W.heap.size W w') :
 Calls Tryz.prog 67 #[u, .func (.func 68) #[] #[.pointer (some ⟨D + 3, 0, none⟩)]] w fun e w' => e = .returned (.bool (ks.any p)) /\ Below w.heap.size w w' := by
 have HI := Lib.hid (index_notover p D hR hl hp);have HM := Lib.hid (ix_any p ks);obtain ⟨A, c, rfl⟩ := hR.form;clear hR hp;rw [Tr.toI_len] at HI ⊢
 go_enter Tryz.func67, Tryz.ntmps67
 go_wp2_with fail
 refine HI.out.mono ?_;rintro e w1 ⟨rfl, hb1⟩;have HB := Lib.hid hb1; clear hb1;go_wp2;go_ret;exact ⟨ret_bool HM.out, HB.out⟩
structure OvB (D : Nat) (st lv : Value) (W : World) : Prop where
 lt : D + 3 < W.heap.size
 c0 : W.cell? ⟨D, 0, none⟩ = some st
 c1 : W.cell? ⟨D + 1, 0, none⟩ = some lv
 c2 : W.cell? ⟨D + 2, 0, none⟩ = some (.func (.func 65) #[] #[.pointer (some ⟨D, 0, none⟩), .pointer (some ⟨D + 1, 0, none⟩)])
 c3 : W.cell? ⟨D + 3, 0, none⟩ = some (.func (.func 66) #[] #[.pointer (some ⟨D, 0, none⟩), .pointer (some ⟨D + 2, 0, none⟩), .pointer (some ⟨D + 3, 0, none⟩)])
theorem OvB.below {D : Nat} {st lv : Value} {W W' : World} (h : OvB D st lv W) (hb : Below W.heap.size W W') : OvB D st lv W' :=
 ⟨Nat.lt_of_lt_of_le h.lt hb.size, (hb.cell (cell_lt h.c0)).trans h.c0, (hb.cell (cell_lt h.c1)).trans h.c1, (hb.cell (cell_lt h.c2)).trans h.c2, (hb.cell (cell_lt h.c3)).trans h.c3⟩
def endB (c : CH) (l : List Int) (k : Nat) : Bool := decide (kC c.ss k = 4) && Tr.inB l k
def ovB (c : CH) (l : List Int) (i : Nat) : Bool := Tr.overB (dC c.ss) (kC c.ss) c.ss.length l i
set_option maxHeartbeats 4000000 in
theorem ended_any {w W : World} {c : CH} {eV vV tV : Value} {sp : List SP} {tp : List TP} {A3 : Option Addr} {n3 k3 : Nat} {l : List Int} {lv : Value} {D : Nat} (h : ChM w c eV vV (.slice A3 n3 k3) tV sp tp) (hU : Tr.RdZ w lv l) (hl : l.length <= 4611686018427387904)
 (hb : Below w.heap.size w W) (hB : OvB D (.slice A3 n3 k3) lv W) {x : Nat} (hx : x < c.ss.length) :
 Calls Tryz.prog 65 #[.int .i64 (x : Nat), .pointer (some ⟨D, 0, none⟩), .pointer (some ⟨D + 1, 0, none⟩)] W fun e w' => e = .returned (.bool (endB c l x)) /\ Below W.heap.size W w' := by
 have hss := h.sLen;have hn3 : n3 = c.ss.length := by
  obtain ⟨_, _, e⟩ := h.ss.form;simp only [Value.slice.injEq] at e;exact e.2.1.trans hss
 subst hn3;obtain ⟨b, o, X, Y, a4, a5, m4, q4, m5, q5, rfl, hbw, hXY, hcs⟩ := ch_states h (by omega);obtain ⟨_, r1, _, _, _, _⟩ := hcs W hb x hx;obtain ⟨_, c0, c1, _, _⟩ := hB;have HC := Lib.hid (Tr.intContains_any lv l x W (hU.below hb) (by omega));obtain ⟨A5, k5, rfl⟩ := hU.form;have HB := Lib.hid (Below.refl W.heap.size W);have hE : endB c l x = (decide (kC c.ss x = 4) && decide ((x : Int) ∈ l)) := rfl;obtain ⟨RS, hRS⟩ : ∃ r, endB c l x = r := ⟨_, rfl⟩
 rw [hRS] at hE ⊢;clear h hU hb hcs hXY hRS hss hbw;generalize c.ss.length = n at *; generalize l.length = ll at *
 by_cases h4 : kC c.ss x = 4
 ·rw [decide_eq_true h4, Bool.true_and] at hE;rw [h4] at r1;have HE := Lib.hid hE;clear hE h4
  go_enter Tryz.func65, Tryz.ntmps65
  go_wp2_with fail
  refine HC.out.mono ?_;rintro e w1 ⟨rfl, rfl⟩;go_wp2;go_ret;exact ⟨ret_bool HE.out.symm, HB.out⟩
 ·rw [decide_eq_false h4, Bool.false_and] at hE;have HE := Lib.hid hE;have e4 : (kC c.ss x == 4) = false := int_ne h4;clear hE h4
  go_enter Tryz.func65, Tryz.ntmps65
  go_wp2;go_ret;exact ⟨ret_bool HE.out.symm, HB.out⟩
set_option maxHeartbeats 8000000 in
theorem over_walk {w : World} {c : CH} {eV vV tV : Value} {sp : List SP} {tp : List TP} {A3 : Option Addr} {n3 k3 : Nat} {l : List Int} {lv : Value} {D : Nat} (h : ChM w c eV vV (.slice A3 n3 k3) tV sp tp) (hT : treeP c) (hU : Tr.RdZ w lv l) (hl : l.length <= 4611686018427387904) :
 ∀ m i W, c.ss.length - i <= m -> i < c.ss.length -> Below w.heap.size w W -> OvB D (.slice A3 n3 k3) lv W ->
 Calls Tryz.prog 66 #[.int .i64 (i : Nat), .pointer (some ⟨D, 0, none⟩), .pointer (some ⟨D + 2, 0, none⟩), .pointer (some ⟨D + 3, 0, none⟩)] W fun e w' => e = .returned (.bool (ovB c l i)) /\ Below W.heap.size W w' := by
 intro m
 induction m with
 | zero => intro i W h1 h2; omega
 | succ m ih =>
 intro i W hm hi hb hB;have hss := h.sLen;have hn3 : n3 = c.ss.length := by
  obtain ⟨_, _, e⟩ := h.ss.form;simp only [Value.slice.injEq] at e;exact e.2.1.trans hss
 subst hn3;have hn40 := hT.le;have hki : ∀ W', Below w.heap.size w W' -> Calls Tryz.prog 52 #[.slice A3 c.ss.length k3, .int .i64 i] W' fun e w' => (∃ u, e = .returned u /\ w'.ownsRow W'.heap.size 3 1 u (kidC c i).length (Tr.kvN (kidC c i))) /\ Below W'.heap.size W' w' := fun W' hW => by
  have := Tr.kids_any (.slice A3 c.ss.length k3) (sp.map toT) i W' (h.below hW).rdT (by rw [List.length_map, hss]; exact hi) (by rw [dp_toT h, kp_toT h, List.length_map, hss]; exact hT);rw [dp_toT h, List.length_map, hss] at this;exact this
 have hkd : ∀ x ∈ kidC c i, i < x /\ x < c.ss.length := fun x hx => Tr.kid_lt hx
 have hen := fun W' (hW : Below w.heap.size w W') (hB' : OvB D (.slice A3 c.ss.length k3) lv W') x hx => ended_any (x := x) h hU hl hW hB' hx
 obtain ⟨b, o, X, Y, a4, a5, m4, q4, m5, q5, rfl, hbw, hXY, hcs⟩ := ch_states h (by omega);have hno : ∀ W' x, Below w.heap.size w W' -> OvB D (.slice (some ⟨b, o, none⟩) c.ss.length k3) lv W' -> x ∈ kidC c i -> Calls Tryz.prog 68 #[.int .i64 (x : Nat), .pointer (some ⟨D + 3, 0, none⟩)] W' fun e w' => e = .returned (.bool (!ovB c l x)) /\ Below W'.heap.size W' w' := by
  intro W' x hW hB' hx;obtain ⟨h1, h2⟩ := hkd x hx;have HC := Lib.hid (ih x W' (by omega) h2 hW hB');have c3 := hB'.c3;clear h hU hb hB ih hki hkd hen hcs hXY hm hi hW hB' hx h1 h2 hss hbw
  go_enter Tryz.func68, Tryz.ntmps68
  go_wp2_with fail
  refine HC.out.mono ?_;rintro e w1 ⟨rfl, hb1⟩;have HB := Lib.hid hb1; clear hb1;go_wp2;go_ret;exact ⟨rfl, HB.out⟩
 obtain ⟨_, r1, _, _, _, _⟩ := hcs W hb i hi;have HKI := Lib.hid hki; have HEN := Lib.hid hen; have HNO := Lib.hid hno; have HKD := Lib.hid hkd; have HB0 := Lib.hid hb; have HB := Lib.hid hB; have HCS := Lib.hid (fun W' hW => (hcs W' hW i hi).2.1);have hkl := kidC_len c i;obtain ⟨_, c0, c1, c2, c3⟩ := hB;have ho2 : kC c.ss i = 2 -> ovB c l i = (kidC c i).any (endB c l) := fun hk => Tr.overB_one hk
 have ho3 : kC c.ss i = 3 -> ovB c l i = !((kidC c i).any fun x => !ovB c l x) := fun hk => by
  show Tr.overB _ _ _ _ _ = _;rw [Tr.overB_both hk, List.not_any_eq_all_not];simp only [Bool.not_not]; rfl
 have ho1 : kC c.ss i ≠ 2 -> kC c.ss i ≠ 3 -> ovB c l i = false := fun a b => Tr.overB_else a b
 obtain ⟨RS, hRS⟩ : ∃ r, ovB c l i = r := ⟨_, rfl⟩
 rw [hRS] at ho1 ho2 ho3 ⊢;have HO1 := Lib.hid ho1; have HO2 := Lib.hid ho2; have HO3 := Lib.hid ho3;clear h hU hb ih hki hkd hen hno hcs hXY hm hRS hss hbw ho1 ho2 ho3 hT r1
 go_enter Tryz.func66, Tryz.ntmps66
 go_wp2_with fail
 refine (HKI.out W HB0.out).mono ?_;rintro e w2 ⟨⟨u, rfl, hv⟩, hb2⟩;obtain ⟨A6, c6, rfl⟩ := own_slice hv;have HRZ := Lib.hid (Tr.rdZ_own hv);have HB2 := Lib.hid (HB0.out.trans (hb2.mono HB0.out.size)); have HV2 := Lib.hid (HB.out.below hb2); have HBX := Lib.hid hb2;have r1 := HCS.out w2 HB2.out;clear hv hb2 c0 c1 c2 c3;obtain ⟨_, c0, c1, c2, c3⟩ := HV2.out;by_cases k2 : kC c.ss i = 2
 ·have HE := Lib.hid (HO2.out k2);rw [k2] at r1;have HC := Lib.hid (contains_ended (endB c l) D HRZ.out (by omega) fun W' x hW hx => HEN.out W' (HB2.out.trans (hW.mono HB2.out.size)) (HV2.out.below hW) x (HKD.out x hx).2);clear k2
  go_wp2_with fail
  refine HC.out.mono ?_;rintro e w3 ⟨rfl, hb3⟩;have HB3 := Lib.hid (HBX.out.trans (hb3.mono HBX.out.size)); clear hb3;go_wp2;go_ret;exact ⟨ret_bool HE.out.symm, HB3.out⟩
 ·by_cases k3' : kC c.ss i = 3
  ·have HE := Lib.hid (HO3.out k3');rw [k3'] at r1;have HC := Lib.hid (contains_notover (fun x => !ovB c l x) D HRZ.out (by omega) fun W' x hW hx => HNO.out W' x (HB2.out.trans (hW.mono HB2.out.size)) (HV2.out.below hW) hx);clear k2 k3'
   go_wp2_with fail
   refine HC.out.mono ?_;rintro e w3 ⟨rfl, hb3⟩;have HB3 := Lib.hid (HBX.out.trans (hb3.mono HBX.out.size)); clear hb3;go_wp2;go_ret;exact ⟨ret_bool HE.out.symm, HB3.out⟩
  ·have HE := Lib.hid (HO1.out k2 k3');have e2 : (kC c.ss i == 2) = false := int_ne k2;have e3 : (kC c.ss i == 3) = false := int_ne k3';clear k2 k3';go_wp2;go_ret;exact ⟨ret_bool HE.out.symm, HBX.out⟩
end Go.Proofs.YtcnfcililiehlaaGreatDoor.Ch.Vd
namespace Go.Proofs.YtcnfcililiehlaaGreatDoor.Ch.Vd
open Go.RowKit Go.Shelf
set_option maxRecDepth 100000
theorem ov_start (w : World) (st lv : Value) {W2 : World} (hW2 : W2 = (((w.alloc (.cells #[st] 24)).alloc (.cells #[lv] 29)).alloc (.cells #[.func (.func 65) #[] #[.pointer (some ⟨w.heap.size, 0, none⟩), .pointer (some ⟨w.heap.size + 1, 0, none⟩)]] 60)).alloc (.cells #[.nilFunc] 60)) :
 Boxed W2 (w.heap.size + 1 + 1 + 1) 60 .nilFunc /\ OvB w.heap.size st lv (W2.setCell ⟨w.heap.size + 1 + 1 + 1, 0, none⟩ (.func (.func 66) #[] #[.pointer (some ⟨w.heap.size, 0, none⟩), .pointer (some ⟨w.heap.size + 1 + 1, 0, none⟩), .pointer (some ⟨w.heap.size + 1 + 1 + 1, 0, none⟩)])) /\ Below w.heap.size w (W2.setCell ⟨w.heap.size + 1 + 1 + 1, 0, none⟩ (.func (.func 66) #[] #[.pointer (some ⟨w.heap.size, 0, none⟩), .pointer (some ⟨w.heap.size + 1 + 1, 0, none⟩), .pointer (some ⟨w.heap.size + 1 + 1 + 1, 0, none⟩)])) := by
 obtain ⟨e, he⟩ : ∃ x, x = (.func (.func 65) #[] #[.pointer (some ⟨w.heap.size, 0, none⟩), .pointer (some ⟨w.heap.size + 1, 0, none⟩)] : Value) := ⟨_, rfl⟩
 rw [<- he] at hW2;have h1 := Boxed.new w 24 st;have z1 : (w.alloc (.cells #[st] 24)).heap.size = w.heap.size + 1 := by simp
 obtain ⟨w1, hw1⟩ : ∃ x, x = w.alloc (.cells #[st] 24) := ⟨_, rfl⟩
 rw [<- hw1] at h1 z1 hW2;have b1 : Below w.heap.size w w1 := hw1 ▸ (Below.refl _ _).alloc (Nat.le_refl _) _;clear hw1;have h2 := Boxed.new w1 29 lv;have h1' := h1.alloc (.cells #[lv] 29);have z2 : (w1.alloc (.cells #[lv] 29)).heap.size = w1.heap.size + 1 := by simp
 obtain ⟨w2, hw2⟩ : ∃ x, x = w1.alloc (.cells #[lv] 29) := ⟨_, rfl⟩
 have b2 : Below w.heap.size w w2 := hw2 ▸ b1.alloc b1.size _;rw [<- hw2] at h2 h1' z2 hW2;clear hw2 h1;have h3 := Boxed.new w2 60 e;have h1'' := h1'.alloc (.cells #[e] 60);have h2' := h2.alloc (.cells #[e] 60);have z3 : (w2.alloc (.cells #[e] 60)).heap.size = w2.heap.size + 1 := by simp
 obtain ⟨w3, hw3⟩ : ∃ x, x = w2.alloc (.cells #[e] 60) := ⟨_, rfl⟩
 have b3 : Below w.heap.size w w3 := hw3 ▸ b2.alloc b2.size _;rw [<- hw3] at h3 h1'' h2' z3 hW2;clear hw3 h1' h2;have h4 := Boxed.new w3 60 .nilFunc;have g1 := h1''.alloc (.cells #[.nilFunc] 60);have g2 := h2'.alloc (.cells #[.nilFunc] 60);have g3 := h3.alloc (.cells #[.nilFunc] 60);have z4 : W2.heap.size = w3.heap.size + 1 := by rw [hW2]; simp
 have b4 : Below w.heap.size w W2 := hW2 ▸ b3.alloc b3.size _;rw [<- hW2] at h4 g1 g2 g3;clear hW2 h1'' h2' h3;rw [z3, z2, z1] at h4;rw [z2, z1] at g3;rw [z1] at g2;have hset := grownBy_setCell' W2 (w.heap.size + 1 + 1 + 1) (.func (.func 66) #[] #[.pointer (some ⟨w.heap.size, 0, none⟩), .pointer (some ⟨w.heap.size + 1 + 1, 0, none⟩), .pointer (some ⟨w.heap.size + 1 + 1 + 1, 0, none⟩)]);have hk : ∀ {B : Nat} {t : TypeId} {v : Value}, Boxed W2 B t v -> B < w.heap.size + 1 + 1 + 1 -> Boxed (W2.setCell ⟨w.heap.size + 1 + 1 + 1, 0, none⟩ (.func (.func 66) #[] #[.pointer (some ⟨w.heap.size, 0, none⟩), .pointer (some ⟨w.heap.size + 1 + 1, 0, none⟩), .pointer (some ⟨w.heap.size + 1 + 1 + 1, 0, none⟩)])) B t v := fun h hb => h.kept hset (fun e => by have := Option.some.inj e; omega)
 refine ⟨h4, ⟨by have := hset.size; omega, (hk g1 (by omega)).cell, (hk g2 (by omega)).cell, ?_, (Boxed.set _ h4).cell⟩, ⟨hset.os.trans b4.os, hset.tape.trans b4.tape, hset.output.trans b4.output, Nat.le_trans b4.size hset.size, fun k hk' => (hset.block k (by omega) (fun e => by have := Option.some.inj e; omega)).trans (b4.block k hk')⟩⟩;rw [(hk g3 (by omega)).cell, he]
set_option maxHeartbeats 4000000 in
theorem isOver_any {w : World} {c : CH} {eV vV tV : Value} {sp : List SP} {tp : List TP} {A3 : Option Addr} {n3 k3 : Nat} {l : List Int} {lv : Value} (h : ChM w c eV vV (.slice A3 n3 k3) tV sp tp) (hT : treeP c) (hU : Tr.RdZ w lv l) (hl : l.length <= 4611686018427387904) {i : Nat} (hi : i < c.ss.length) :
 Calls Tryz.prog 44 #[.slice A3 n3 k3, lv, .int .i64 (i : Nat)] w fun e w' => e = .returned (.bool (ovB c l i)) /\ Below w.heap.size w w' := by
 obtain ⟨A5, k5, rfl⟩ := hU.form;obtain ⟨W2, hW2⟩ : ∃ W, W = (((w.alloc (.cells #[.slice A3 n3 k3] 24)).alloc (.cells #[.slice A5 l.length k5] 29)).alloc (.cells #[.func (.func 65) #[] #[.pointer (some ⟨w.heap.size, 0, none⟩), .pointer (some ⟨w.heap.size + 1, 0, none⟩)]] 60)).alloc (.cells #[.nilFunc] 60) := ⟨_, rfl⟩
 obtain ⟨hbx, hov, hbl⟩ := ov_start w _ _ hW2;obtain ⟨W3, hW3⟩ : ∃ W, W = W2.setCell ⟨w.heap.size + 1 + 1 + 1, 0, none⟩ (.func (.func 66) #[] #[.pointer (some ⟨w.heap.size, 0, none⟩), .pointer (some ⟨w.heap.size + 1 + 1, 0, none⟩), .pointer (some ⟨w.heap.size + 1 + 1 + 1, 0, none⟩)]) := ⟨_, rfl⟩
 rw [<- hW3] at hov hbl;have HC := Lib.hid (over_walk (D := w.heap.size) h hT hU hl c.ss.length i W3 (by omega) hi hbl hov);have q1 := hbx.cell; have q2 := hbx.frozen;have hc3 := hov.c3;have HW2 := Lib.hid hW2; have HW3 := Lib.hid hW3; have HB := Lib.hid hbl;clear h hU hW2 hW3 hbx hov hbl hT;generalize l.length = ll at *
 go_enter Tryz.func44, Tryz.ntmps44
 go_upto_region 3 with fail
 rw [<- HW2.out]
 go_upto_region 4 with fail
 rw [<- HW3.out]
 go_wp2_with fail
 refine HC.out.mono ?_;rintro e w4 ⟨rfl, hb4⟩;have HB4 := Lib.hid (HB.out.trans (hb4.mono HB.out.size)); clear hb4;go_wp2;go_ret;exact ⟨rfl, HB4.out⟩
noncomputable def overC (c : CH) (l : List Int) (i : Int) : Bool := legalC c l && (decide (i ∈ l) && ovB c l i.toNat)
set_option maxHeartbeats 4000000 in
theorem over_any {w : World} {c : CH} {eV vV sV tV u : Value} {sp : List SP} {tp : List TP} {l : List Int} (i : Int) (h : ChM w c eV vV sV tV sp tp) (hec : ∀ A n k, eV = .slice A n k -> n <= k) (hsb : Sb c) (hU : Tr.RdZ w u l) (hl : l.length <= 4611686018427387904) :
 Calls Tryz.prog 26 #[chA c eV vV sV tV, u, .int .i64 i] w fun e w' => e = .returned (.bool (overC c l i)) /\ Below w.heap.size w w' := by
 obtain ⟨M, A1, A2, A3, A4, k1, k2, k3, k4, wb, hM, rfl, rfl, rfl, rfl, hwb, hb1, _, d0, d1, d2, d3, d4⟩ := box_ch h;have HC := Lib.hid (legal_any (h.below hb1) hec hsb (hU.below hb1) hl);have HCO := Lib.hid (fun W (hW : Below w.heap.size w W) => Tr.intContains_any u l i W (hU.below hW) (by omega));have hio : legalC c l = true -> i ∈ l -> ∀ W (hW : Below w.heap.size w W), Calls Tryz.prog 44 #[.slice A3 sp.length k3, u, .int .i64 i] W fun e w' => e = .returned (.bool (ovB c l i.toNat)) /\ Below W.heap.size W w' := fun h1 h2 W hW => by
  obtain ⟨h0, s, hs, hsx, _⟩ := legal_nat h1;have hT : treeP c := (check_zero.1 h0).tree;rw [hs] at h2;obtain ⟨k, hk, hik⟩ := List.mem_map.1 h2;have e : i = ((i.toNat : Nat) : Int) := by omega
  have e2 : i.toNat = k := by omega
  have := isOver_any (h.below hW) hT (hU.below hW) hl (i := i.toNat) (by rw [e2]; exact hsx k hk);rw [<- e] at this;exact this
 obtain ⟨A5, k5, rfl⟩ := hU.form;have HIO := Lib.hid hio;have HD := Lib.hid (cells_later d0 d1 d2 d3 d4);have HW := Lib.hid hwb; have HB := Lib.hid hb1;have hov : overC c l i = (legalC c l && (decide (i ∈ l) && ovB c l i.toNat)) := rfl;obtain ⟨RS, hRS⟩ : ∃ r, overC c l i = r := ⟨_, rfl⟩
 rw [hRS] at hov ⊢;unfold chA at HC ⊢;rw [hM] at HC ⊢;clear h hec hsb hU hM hwb hb1 hio hRS;generalize c.es.length = n1 at *; generalize c.vs.length = n2 at *; generalize sp.length = n3 at *; generalize tp.length = n4 at *; generalize l.length = ll at *
 go_enter Tryz.func26, Tryz.ntmps26
 go_upto_region 1 with fail
 rw [<- HW.out]
 go_wp2_with fail
 refine HC.out.mono ?_;rintro e w2 ⟨rfl, hb2⟩;have HB2 := Lib.hid (HB.out.trans (hb2.mono HB.out.size)); have HX2 := Lib.hid hb2; clear hb2 d0 d1 d2 d3 d4;obtain ⟨d0, d1, d2, d3, d4⟩ := HD.out w2 HX2.out;cases h1 : legalC c l with
 | false =>
  rw [h1, Bool.false_and] at hov;have HR := Lib.hid hov;clear h1 hov;go_wp2;go_ret;exact ⟨ret_bool HR.out.symm, HB2.out⟩
 | true =>
  rw [h1, Bool.true_and] at hov;have HI2 := Lib.hid (HIO.out h1);clear h1 HIO
  go_wp2_with fail
  refine (HCO.out w2 HB2.out).mono ?_;rintro e w3 ⟨rfl, rfl⟩;by_cases h2 : i ∈ l
  ·rw [decide_eq_true h2] at hov ⊢;rw [Bool.true_and] at hov;have HR := Lib.hid hov;have HI3 := Lib.hid (HI2.out h2 w2 HB2.out);clear h2 hov
   go_wp2_with fail
   refine HI3.out.mono ?_;rintro e w4 ⟨rfl, hb4⟩;have HB4 := Lib.hid (HB2.out.trans (hb4.mono HB2.out.size)); clear hb4;go_wp2;go_ret;exact ⟨ret_bool HR.out.symm, HB4.out⟩
  ·rw [decide_eq_false h2] at hov ⊢;have HR := Lib.hid hov;clear h2 hov;go_wp2;go_ret;exact ⟨ret_bool HR.out.symm, HB2.out⟩
end Go.Proofs.YtcnfcililiehlaaGreatDoor.Ch.Vd
