/- Own texts, joined: Xc, Xe. -/
import Derived.Test.YtcnfcililiehlaaGreatDoorR4
import Derived.Test.YtcnfcililiehlaaGreatDoorR7
import Derived.Test.YtcnfcililiehlaaGreatDoorR8
namespace Go.Proofs.YtcnfcililiehlaaGreatDoor.Ch.Vd
open Go.RowKit
theorem unless_any (b : Bool) (e : Int) (w : World) : Calls Tryz.prog 121 #[.bool b, .int .i64 e] w fun x w' => x = .returned (.int .i64 (unE b e)) /\ w' = w := by
 cases b
 ·go_enter Tryz.func121, Tryz.ntmps121
  go_wp2;go_ret;exact ⟨rfl, rfl⟩
 ·go_enter Tryz.func121, Tryz.ntmps121
  go_wp2;go_ret;exact ⟨rfl, rfl⟩
theorem vParent_any (k : Int) (w : World) : Calls Tryz.prog 212 #[.int .i64 k] w fun e w' => e = .returned (.bool (decide (Tr.parentP k))) /\ w' = w := by
 by_cases h5 : k = 2
 ·subst h5
  go_enter Tryz.func212, Tryz.ntmps212
  go_wp2;go_ret;exact ⟨ret_bool (by decide), rfl⟩
 ·by_cases h6 : k = 3
  ·subst h6
   go_enter Tryz.func212, Tryz.ntmps212
   go_wp2;go_ret;exact ⟨ret_bool (by decide), rfl⟩
  ·have hP : decide (Tr.parentP k) = false := decide_eq_false (by unfold Tr.parentP; omega);rw [hP];have e5 := int_ne h5; have e6 := int_ne h6;clear hP
   go_enter Tryz.func212, Tryz.ntmps212
   go_wp2;go_ret;exact ⟨rfl, rfl⟩
theorem vHistory_any (v0 v3 v4 v5 : Value) (k d : Int) (w : World) (h0 : ∃ X, v0 = .string X) (h3 : ∃ X, v3 = .string X) (h4 : ∃ A n c, v4 = .slice A n c) (h5 : ∃ A n c, v5 = .slice A n c) :
 Calls Tryz.prog 169 #[.agg #[v0, .int .i64 k, .int .i64 d, v3, v4, v5]] w fun e w' => e = .returned (.bool (decide (Tr.pastP k))) /\ Below w.heap.size w w' := by
 obtain ⟨X, rfl⟩ := h0; obtain ⟨Y, rfl⟩ := h3; obtain ⟨A4, n4, c4, rfl⟩ := h4; obtain ⟨A5, n5, c5, rfl⟩ := h5;have HB := Lib.hid ((Below.refl w.heap.size w).alloc (Nat.le_refl _) (.cells #[.string X, .int .i64 k, .int .i64 d, .string Y, .slice A4 n4 c4, .slice A5 n5 c5] 50));by_cases h5 : k = 5
 ·subst h5
  go_enter Tryz.func169, Tryz.ntmps169
  go_wp2;go_ret;exact ⟨ret_bool (by decide), HB.out⟩
 ·by_cases h6 : k = 6
  ·subst h6
   go_enter Tryz.func169, Tryz.ntmps169
   go_wp2;go_ret;exact ⟨ret_bool (by decide), HB.out⟩
  ·have hP : decide (Tr.pastP k) = false := decide_eq_false (by unfold Tr.pastP; omega);rw [hP];have e5 := int_ne h5; have e6 := int_ne h6;clear hP
   go_enter Tryz.func169, Tryz.ntmps169
   go_wp2;go_ret;exact ⟨rfl, HB.out⟩
theorem box_c (w : World) (x0 x1 x2 x3 x4 : Value) : ∃ w1, w1 = w.alloc (.cells #[x0, x1, x2, x3, x4] 27) /\ Below w.heap.size w w1 /\ w1.heap.size = w.heap.size + 1 /\
 w1.cell? ⟨w.heap.size, 0, none⟩ = some x0 /\ w1.cell? ⟨w.heap.size, 1, none⟩ = some x1 /\ w1.cell? ⟨w.heap.size, 2, none⟩ = some x2 /\ w1.cell? ⟨w.heap.size, 3, none⟩ = some x3 /\ w1.cell? ⟨w.heap.size, 4, none⟩ = some x4 :=
 ⟨_, rfl, (Below.refl _ _).alloc (Nat.le_refl _) _, by simp, by simp, by simp, by simp, by simp, by simp⟩
theorem isShort_any {w : World} {c : CH} {eV vV sV tV : Value} {sp : List SP} {tp : List TP} (h : ChM w c eV vV sV tV sp tp) :
 Calls Tryz.prog 122 #[chA c eV vV sV tV] w fun e w' => e = .returned (.bool (shortB c)) /\ Below w.heap.size w w' := by
 obtain ⟨N, hN, hNl⟩ := bstr_some c.nm;obtain ⟨⟨A1, k1, rfl⟩, ⟨A2, k2, rfl⟩, ⟨A3, k3, rfl⟩, ⟨A4, k4, rfl⟩⟩ := h.forms;have hs : shortB c = (decide (c.es.length <= 12) && (decide (c.vs.length <= 8) && (decide (sp.length <= 40) && decide (tp.length <= 48)))) := by rw [h.sLen, h.tLen]; rfl
 rw [hs];unfold chA;rw [hN];clear h hN hNl hs;generalize c.es.length = n1; generalize c.vs.length = n2; generalize sp.length = n3; generalize tp.length = n4;obtain ⟨w1, hw1, hb1, hz1, d0, d1, d2, d3, d4⟩ := box_c w (.string N) (.slice A1 n1 k1) (.slice A2 n2 k2) (.slice A3 n3 k3) (.slice A4 n4 k4);have HW := Lib.hid hw1; have HB := Lib.hid hb1;clear hw1 hb1;by_cases h1 : n1 <= 12
 ·have q1 : decide (n1 <= 12) = true := decide_eq_true h1;have e1 : decide ((n1 : Int) <= 12) = true := decide_eq_true (by omega);by_cases h2 : n2 <= 8
  ·have q2 : decide (n2 <= 8) = true := decide_eq_true h2;have e2 : decide ((n2 : Int) <= 8) = true := decide_eq_true (by omega);by_cases h3 : n3 <= 40
   ·have q3 : decide (n3 <= 40) = true := decide_eq_true h3;have e3 : decide ((n3 : Int) <= 40) = true := decide_eq_true (by omega);have e4 : decide ((n4 : Int) <= 48) = decide (n4 <= 48) := by rw [decide_eq_decide]; omega
    rw [q1, q2, q3];clear q1 q2 q3
    go_enter Tryz.func122, Tryz.ntmps122
    go_wp2_with fail
    rw [<- HW.out];go_wp2;go_ret;exact ⟨rfl, HB.out⟩
   ·have q3 : decide (n3 <= 40) = false := decide_eq_false h3;have e3 : decide ((n3 : Int) <= 40) = false := decide_eq_false (by omega);rw [q1, q2, q3];clear q1 q2 q3
    go_enter Tryz.func122, Tryz.ntmps122
    go_wp2_with fail
    rw [<- HW.out];go_wp2;go_ret;exact ⟨rfl, HB.out⟩
  ·have q2 : decide (n2 <= 8) = false := decide_eq_false h2;have e2 : decide ((n2 : Int) <= 8) = false := decide_eq_false (by omega);rw [q1, q2];clear q1 q2
   go_enter Tryz.func122, Tryz.ntmps122
   go_wp2_with fail
   rw [<- HW.out];go_wp2;go_ret;exact ⟨rfl, HB.out⟩
 ·have q1 : decide (n1 <= 12) = false := decide_eq_false h1;have e1 : decide ((n1 : Int) <= 12) = false := decide_eq_false (by omega);rw [q1];clear q1
  go_enter Tryz.func122, Tryz.ntmps122
  go_wp2_with fail
  rw [<- HW.out];go_wp2;go_ret;exact ⟨rfl, HB.out⟩
theorem first_any (n : Nat) (f : FuncId) (lb : Array Value) (E : Nat -> Int) (w : World) (hn : n <= 4611686018427387904) (hent : ∀ args w, (callFunc f args).run Tryz.prog w = .ok (.enter f args) w)
 (hask : ∀ W i, Below w.heap.size w W -> i < n -> Calls Tryz.prog f (#[.int .i64 i] ++ lb) W fun e w' => e = .returned (.int .i64 (E i)) /\ Below W.heap.size W w') :
 Calls Tryz.prog 130 #[.int .i64 n, .func (.func f) #[] lb] w fun e w' => e = .returned (.int .i64 (firE E n)) /\ Below w.heap.size w w' := by
 have HA := Lib.hid hask; clear hask
 go_enter Tryz.func130, Tryz.ntmps130
 go_wp2
 go_loopw [5, 6, 8] (fun x5 x6 i wr => (x5 = x5 /\ x6 = x6) /\ ∃ k : Nat, k <= n /\ i = .int .i64 k /\ Hid (firF E (n - k) k = firE E n) /\ Below w.heap.size w wr) (fun _ _ i _ => n - (intOf i).toNat)
 case atStart => exact ⟨⟨rfl, rfl⟩, 0, by omega, rfl, rfl, Below.refl _ _⟩
 case round =>
  obtain ⟨_, k, hk, rfl, HI, hb⟩ := hrel;have HBL := Lib.hid hb;by_cases hkn : k < n
  ·have HC := Lib.hid (HA.out wr k hb hkn);have hst := firF_step E hkn;rw [HI.out] at hst;have HS := Lib.hid hst;clear hb hst;by_cases he : E k = 0
   ·have hr : firF E (n - (k + 1)) (k + 1) = firE E n := by rw [HS.out, if_neg (fun h => h he)]
    have HR := Lib.hid hr;have HE := Lib.hid he;clear hr he
    go_wp2_with fail
    refine HC.out.mono ?_;rintro e w1 ⟨rfl, hb1⟩;rw [HE.out];have HB1 := Lib.hid (HBL.out.trans (hb1.mono HBL.out.size)); clear hb1;go_wp2
    go_roundw
    case rel => exact ⟨⟨trivial, trivial⟩, k + 1, by omega, by go_num, HR.out, HB1.out⟩
    case measure => simp [intOf]; omega
   ·have hr : E k = firE E n := by rw [HS.out, if_pos he]
    have HR := Lib.hid hr;have hne := int_ne he;obtain ⟨ek, hek⟩ : ∃ x, E k = x := ⟨_, rfl⟩
    rw [hek] at hne HR HC;clear hr he hek
    go_wp2_with fail
    refine HC.out.mono ?_;rintro e w1 ⟨rfl, hb1⟩;have HB1 := Lib.hid (HBL.out.trans (hb1.mono HBL.out.size)); clear hb1;go_wp2;go_ret;exact ⟨ret_int HR.out, HB1.out⟩
  ·have hr : (0 : Int) = firE E n := by rw [<- HI.out, firF_end E hkn]
   have HR := Lib.hid hr;clear hr;go_wp2;go_ret;exact ⟨ret_int HR.out, HBL.out⟩
end Go.Proofs.YtcnfcililiehlaaGreatDoor.Ch.Vd
namespace Go.Proofs.YtcnfcililiehlaaGreatDoor.Ch.Vd
open Go.RowKit
set_option maxRecDepth 100000
theorem called9_any (X Y N : ByteArray) (k d : Int) (v4 v5 : Value) (g : Nat) (w : World) (hg : g < w.heap.size) (hN : w.cell? ⟨g, 0, none⟩ = some (.string N)) (h4 : ∃ A n c, v4 = .slice A n c) (h5 : ∃ A n c, v5 = .slice A n c) :
 Calls Tryz.prog 89 #[.agg #[.string X, .int .i64 k, .int .i64 d, .string Y, v4, v5], .pointer (some ⟨g, 0, none⟩)] w fun e w' => e = .returned (.bool (decide (X.data.toList = N.data.toList))) /\ Below w.heap.size w w' := by
 obtain ⟨A4, n4, c4, rfl⟩ := h4; obtain ⟨A5, n5, c5, rfl⟩ := h5;have HB : Hid (∀ W : World, ∀ o : Obj, Below W.heap.size W (W.alloc o)) := fun W o => (Below.refl _ _).alloc (Nat.le_refl _) o
 have hne0 : w.heap.size ≠ g := by omega
 by_cases he : X.data.toList = N.data.toList
 ·obtain rfl := str_eq he;rw [decide_eq_true he];clear he
  go_enter Tryz.func89, Tryz.ntmps89
  go_wp2;go_ret;exact ⟨rfl, HB.out _ _⟩
 ·have hne := str_ne he;have hne' := str_ne (Ne.symm he);rw [decide_eq_false he];clear he
  go_enter Tryz.func89, Tryz.ntmps89
  go_wp2;go_ret;exact ⟨rfl, HB.out _ _⟩
theorem st_at {w : World} {A : Option Addr} {m cp : Nat} {sp : List SP} {n : Nat} (hR : Inn w 6 (.slice A m cp) n (flatS sp)) (hn : sp.length = n) (hd : ∀ p ∈ sp, StR w p) {k : Nat} (hk : k < sp.length) :
 ∃ b o X Y A4 n4 c4 A5 n5 c5, A = some ⟨b, o, none⟩ /\ b < w.heap.size /\ X.data.toList = (sp[k]).1.nm /\ Y.data.toList = (sp[k]).1.ini /\ Hid (n4 = (sp[k]).1.en.length) /\ Hid (n5 = (sp[k]).1.ex.length) /\ (sp[k]).2.1 = .slice A4 n4 c4 /\ (sp[k]).2.2 = .slice A5 n5 c5 /\
  w.cell? ⟨b, o + k * 6, none⟩ = some (.string X) /\ w.cell? ⟨b, o + k * 6 + 1, none⟩ = some (.int .i64 (sp[k]).1.kd) /\ w.cell? ⟨b, o + k * 6 + 2, none⟩ = some (.int .i64 (sp[k]).1.dp) /\ w.cell? ⟨b, o + k * 6 + 3, none⟩ = some (.string Y) /\ w.cell? ⟨b, o + k * 6 + 4, none⟩ = some (.slice A4 n4 c4) /\ w.cell? ⟨b, o + k * 6 + 5, none⟩ = some (.slice A5 n5 c5) := by
 subst hn;obtain ⟨b, o, rfl, hb, hc⟩ := hR.at_ hk;obtain ⟨A4, c4, e4⟩ := (hd _ (List.getElem_mem hk)).1.form;obtain ⟨A5, c5, e5⟩ := (hd _ (List.getElem_mem hk)).2.form;obtain ⟨X, hX, hXl⟩ := bstr_some (sp[k]).1.nm;obtain ⟨Y, hY, hYl⟩ := bstr_some (sp[k]).1.ini;have f := fun j u (h : (stV sp[k])[j]? = some u) (hj : j < 6) => hc j u ((flatM_at stV 6 (fun _ => rfl) hk hj).trans h)
 have f4 := f 4 (sp[k]).2.1 rfl (by omega);have f5 := f 5 (sp[k]).2.2 rfl (by omega);have f0 := f 0 (bstr (sp[k]).1.nm) rfl (by omega);have f3 := f 3 (bstr (sp[k]).1.ini) rfl (by omega);rw [e4] at f4; rw [e5] at f5; rw [hX] at f0; rw [hY] at f3;exact ⟨b, o, X, Y, A4, _, c4, A5, _, c5, rfl, hb, hXl, hYl, Lib.hid rfl, Lib.hid rfl, e4, e5, f0, f 1 _ rfl (by omega), f 2 _ rfl (by omega), f3, f4, f5⟩
set_option maxHeartbeats 2000000 in
theorem stIndex_any (A : Option Addr) (cp : Nat) (sp : List SP) (N : ByteArray) (g : Nat) (w : World) (hR : Inn w 6 (.slice A sp.length cp) sp.length (flatS sp)) (hd : ∀ p ∈ sp, StR w p) (hl : sp.length <= 4611686018427387904) (hg : g < w.heap.size) (hN : w.cell? ⟨g, 0, none⟩ = some (.string N)) :
 Calls Tryz.prog 88 #[.slice A sp.length cp, .func (.func 89) #[] #[.pointer (some ⟨g, 0, none⟩)]] w fun e w' => e = .returned (.int .i64 (ixP (isS N.data.toList) (sp.map Prod.fst) 0)) /\ Below w.heap.size w w' := by
 have HR := Lib.hid hR; have HD := Lib.hid hd; clear hR hd;obtain ⟨n, hn⟩ : ∃ n, sp.length = n := ⟨_, rfl⟩
 have HN := Lib.hid hn;have HML : Hid ((sp.map Prod.fst).length = n) := by show _ = _; rw [List.length_map, hn]
 rw [hn] at hl HR ⊢;clear hn;have HNM := Lib.hid hN; clear hN
 go_enter Tryz.func88, Tryz.ntmps88
 go_wp2
 go_loopw [4, 5, 8] (fun x4 x5 i wr => x4 = .int .i64 0 /\ (x5 = .int .i64 0 \/ True) /\ ∃ k : Nat, k <= n /\ i = .int .i64 k /\ Hid (ixP (isS N.data.toList) ((sp.map Prod.fst).drop k) k = ixP (isS N.data.toList) (sp.map Prod.fst) 0) /\ Below w.heap.size w wr) (fun _ _ i _ => n - (intOf i).toNat)
 case atStart => exact ⟨rfl, Or.inr trivial, 0, by omega, rfl, rfl, Below.refl _ _⟩
 case round =>
  obtain ⟨rfl, _, k, hk, rfl, HI, hb⟩ := hrel;have HBL := Lib.hid hb;by_cases hkn : k < n
  ·obtain ⟨b, o, X, Y, A4, n4, c4, A5, n5, c5, rfl, _, hX, _, _, _, _, _, e0, e1, e2, e3, e4, e5⟩ := st_at (HR.out.below hb) HN.out (fun p hp => (HD.out p hp).below hb) (k := k) (by rw [HN.out]; exact hkn);have hst := ix_step (p := isS N.data.toList) (l := sp.map Prod.fst) (k := k) (by rw [HML.out]; exact hkn);rw [HI.out] at hst;have hiv : isS N.data.toList ((sp.map Prod.fst)[k]'(by rw [HML.out]; exact hkn)) = decide (X.data.toList = N.data.toList) := by rw [hX, List.getElem_map]; rfl
   rw [hiv] at hst;generalize (sp[k]'(by rw [HN.out]; exact hkn)).1.kd = kd at *
   generalize (sp[k]'(by rw [HN.out]; exact hkn)).1.dp = dd at *
   have HC := Lib.hid (called9_any X Y N kd dd (.slice A4 n4 c4) (.slice A5 n5 c5) g wr (by have := HBL.out.size; omega) ((hb.cell hg).trans HNM.out) ⟨_, _, _, rfl⟩ ⟨_, _, _, rfl⟩);clear hX hb hiv;by_cases he : X.data.toList = N.data.toList
   ·have hr : ixP (isS N.data.toList) (sp.map Prod.fst) 0 = k := by rw [hst, if_pos (by simp [he])]
    have HRR := Lib.hid hr;have HE := Lib.hid (decide_eq_true he);clear hst hr he HI
    go_wp2_with fail
    refine HC.out.mono ?_;rintro e w1 ⟨rfl, hb1⟩;rw [HE.out];have HB1 := Lib.hid (HBL.out.trans (hb1.mono HBL.out.size)); clear hb1;go_wp2;go_ret;exact ⟨ret_int HRR.out.symm, HB1.out⟩
   ·have hr : ixP (isS N.data.toList) ((sp.map Prod.fst).drop (k + 1)) (k + 1) = ixP (isS N.data.toList) (sp.map Prod.fst) 0 := by rw [hst, if_neg (by simp [he])]
    have HRR := Lib.hid hr;have HE := Lib.hid (decide_eq_false he);clear hst hr he HI
    go_wp2_with fail
    refine HC.out.mono ?_;rintro e w1 ⟨rfl, hb1⟩;rw [HE.out];have HB1 := Lib.hid (HBL.out.trans (hb1.mono HBL.out.size)); clear hb1;go_wp2
    go_roundw
    case rel => exact ⟨rfl, Or.inr trivial, k + 1, by omega, by go_num, HRR.out, HB1.out⟩
    case measure => simp [intOf]; omega
  ·have hr : ixP (isS N.data.toList) (sp.map Prod.fst) 0 = -1 := by rw [<- HI.out, ix_end (by rw [HML.out]; exact hkn)]
   have HRR := Lib.hid hr;clear hr HI;go_wp2;go_ret;exact ⟨ret_int HRR.out.symm, HBL.out⟩
theorem place_any {w : World} {c : CH} {eV vV sV tV : Value} {sp : List SP} {tp : List TP} (h : ChM w c eV vV sV tV sp tp) (hl : sp.length <= 4611686018427387904) (N : ByteArray) :
 Calls Tryz.prog 51 #[chA c eV vV sV tV, .string N] w fun e w' => e = .returned (.int .i64 (placeC c.ss N.data.toList)) /\ Below w.heap.size w w' := by
 obtain ⟨M, hM, hMl⟩ := bstr_some c.nm;have hR := h.ss; have hd := h.sd; have hE := h.ssE;obtain ⟨⟨A1, k1, rfl⟩, ⟨A2, k2, rfl⟩, ⟨A3, k3, rfl⟩, ⟨A4, k4, rfl⟩⟩ := h.forms;unfold chA;rw [hM];generalize c.es.length = n1; generalize c.vs.length = n2; generalize tp.length = n4;obtain ⟨w1, hw1⟩ : ∃ W, W = (w.alloc (.cells #[.string M, .slice A1 n1 k1, .slice A2 n2 k2, .slice A3 sp.length k3, .slice A4 n4 k4] 27)).alloc (.cells #[.string N] 9) := ⟨_, rfl⟩
 have hb1 : Below w.heap.size w w1 := hw1 ▸ ((Below.refl _ _).alloc (Nat.le_refl _) _).alloc (by simp) _;have d3 : w1.cell? ⟨w.heap.size, 3, none⟩ = some (.slice A3 sp.length k3) := by rw [hw1]; simp
 have hg : w1.cell? ⟨w.heap.size + 1, 0, none⟩ = some (.string N) := by rw [hw1]; simp
 have hz : w1.heap.size = w.heap.size + 2 := by rw [hw1]; simp
 have HC := Lib.hid (stIndex_any A3 k3 sp N (w.heap.size + 1) w1 (hR.below hb1) (fun p hp => (hd p hp).below hb1) hl (by omega) hg);have HW := Lib.hid hw1; have HB := Lib.hid hb1; have HE := Lib.hid hE;clear h hM hMl hR hd hE hw1 hb1;generalize sp.length = n3 at *
 go_enter Tryz.func51, Tryz.ntmps51
 go_wp2_with fail
 rw [<- HW.out]
 go_wp2_with fail
 refine HC.out.mono ?_;rintro e w2 ⟨rfl, hb2⟩;have HB2 := Lib.hid (HB.out.trans (hb2.mono HB.out.size)); clear hb2;go_wp2;go_ret;exact ⟨ret_int (by rw [HE.out]; rfl), HB2.out⟩
end Go.Proofs.YtcnfcililiehlaaGreatDoor.Ch.Vd
