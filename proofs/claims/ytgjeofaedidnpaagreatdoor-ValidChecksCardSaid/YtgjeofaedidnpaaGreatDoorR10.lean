/- Own texts, joined: Ub, Xb, Xc, Xe. -/
import Derived.Test.YtgjeofaedidnpaaGreatDoorR4
import Derived.Test.YtgjeofaedidnpaaGreatDoorR5
import Derived.Test.YtgjeofaedidnpaaGreatDoorR8
import Derived.Test.YtgjeofaedidnpaaGreatDoorR9
namespace Go.Proofs.YtgjeofaedidnpaaGreatDoor.Tr
open Go.RowKit
theorem below_drewN {B : Nat} {w w' : World} (h : Below B w w') (n : Nat) : Below B w (w'.drewN n) := ⟨h.os, h.tape, h.output, h.size, h.block⟩
structure SM where
 nm : ByteArray
 k : Int
 d : Int
 ini : ByteArray
 ea : Option Addr
 en : Nat
 ec : Nat
 xa : Option Addr
 xn : Nat
 xc : Nat
def stV (x : SM) : List Value := [.string x.nm, .int .i64 x.k, .int .i64 x.d, .string x.ini, .slice x.ea x.en x.ec, .slice x.xa x.xn x.xc]
def flatT (xs : List SM) : List Value := xs.flatMap stV
theorem flatT_at : ∀ {xs : List SM} {i : Nat} (h : i < xs.length) (j : Nat) (u : Value), (stV xs[i])[j]? = some u -> (flatT xs)[i * 6 + j]? = some u
 | [], i, h, _, _, _ => by simp at h
 | c :: r, 0, _, j, u, hu => by
  have hj : j < (stV c).length := (List.getElem?_eq_some_iff.1 hu).1;show (stV c ++ flatT r)[0 * 6 + j]? = _;rw [Nat.zero_mul, Nat.zero_add, List.getElem?_append_left hj]; exact hu
 | c :: r, i + 1, h, j, u, hu => by
  have ih := flatT_at (xs := r) (i := i) (by simpa using h) j u hu;show (stV c ++ flatT r)[(i + 1) * 6 + j]? = _;rw [List.getElem?_append_right (by simp [stV]; omega)];simp only [stV, List.length_cons, List.length_nil];rw [show (i + 1) * 6 + j - (0 + 1 + 1 + 1 + 1 + 1 + 1) = i * 6 + j by omega];exact ih
def dp (xs : List SM) (i : Nat) : Int := match xs[i]? with | some x => x.d | none => 0
def kp (xs : List SM) (i : Nat) : Int := match xs[i]? with | some x => x.k | none => 0
theorem dp_at {xs : List SM} {i : Nat} (h : i < xs.length) : dp xs i = xs[i].d := by unfold dp; rw [List.getElem?_eq_getElem h]
theorem kp_at {xs : List SM} {i : Nat} (h : i < xs.length) : kp xs i = xs[i].k := by unfold kp; rw [List.getElem?_eq_getElem h]
def RdT (w : World) (v : Value) (xs : List SM) : Prop := Inn w 6 v xs.length (flatT xs)
theorem RdT.form {w : World} {v : Value} {xs : List SM} (h : RdT w v xs) : ∃ A c, v = .slice A xs.length c := Inn.form h
theorem RdT.below {w w' : World} {v : Value} {xs : List SM} (h : RdT w v xs) (hb : Below w.heap.size w w') : RdT w' v xs := Inn.below h hb
theorem RdT.drew {w : World} {v : Value} {xs : List SM} (h : RdT w v xs) (n : Nat) : RdT (w.drewN n) v xs := h.below (below_drewN (Below.refl _ _) n)
theorem RdT.base {w : World} {A : Option Addr} {n c : Nat} {xs : List SM} (h : RdT w (.slice A n c) xs) (h0 : 0 < xs.length) : ∃ b o, A = some ⟨b, o, none⟩ /\ b < w.heap.size /\
 ∀ i (hi : i < xs.length), w.cell? ⟨b, o + i * 6, none⟩ = some (.string xs[i].nm) /\ w.cell? ⟨b, o + i * 6 + 1, none⟩ = some (.int .i64 (kp xs i)) /\ w.cell? ⟨b, o + i * 6 + 2, none⟩ = some (.int .i64 (dp xs i)) /\
  w.cell? ⟨b, o + i * 6 + 3, none⟩ = some (.string xs[i].ini) /\ w.cell? ⟨b, o + i * 6 + 4, none⟩ = some (.slice xs[i].ea xs[i].en xs[i].ec) /\ w.cell? ⟨b, o + i * 6 + 5, none⟩ = some (.slice xs[i].xa xs[i].xn xs[i].xc) := by
 rcases h with ⟨_, h1, _⟩ | ⟨ad, c', e, hl, hc⟩
 ·omega
 ·obtain ⟨b, o, rfl, hlt, hc⟩ := hc h0;simp only [Value.slice.injEq] at e;refine ⟨b, o, e.1, hlt, fun i hi => ?_⟩;rw [kp_at hi, dp_at hi];have f := fun j u => flatT_at hi j u
  refine ⟨hc _ _ (f 0 _ rfl), ?_, ?_, ?_, ?_, ?_⟩
  ·rw [Nat.add_assoc]; exact hc _ _ (f 1 _ rfl)
  ·rw [Nat.add_assoc]; exact hc _ _ (f 2 _ rfl)
  ·rw [Nat.add_assoc]; exact hc _ _ (f 3 _ rfl)
  ·rw [Nat.add_assoc]; exact hc _ _ (f 4 _ rfl)
  ·rw [Nat.add_assoc]; exact hc _ _ (f 5 _ rfl)
theorem past_any (k : Int) (w : World) : Calls Tryz.prog 23 #[.int .i64 k] w fun e w' => e = .returned (.bool (decide (pastP k))) /\ w = w' := by
 by_cases h5 : k = 5
 ·subst h5
  go_enter Tryz.func23, Tryz.ntmps23
  go_wp2;go_ret;exact ⟨ret_bool (by decide), rfl⟩
 ·by_cases h6 : k = 6
  ·subst h6
   go_enter Tryz.func23, Tryz.ntmps23
   go_wp2;go_ret;exact ⟨ret_bool (by decide), rfl⟩
  ·have hP : decide (pastP k) = false := decide_eq_false (by unfold pastP; omega);rw [hP];have e5 := int_ne h5; have e6 := int_ne h6;clear hP
   go_enter Tryz.func23, Tryz.ntmps23
   go_wp2;go_ret;exact ⟨rfl, rfl⟩
theorem isHistory_any (k : Int) (w : World) : Calls Tryz.prog 124 #[.int .i64 k] w fun e w' => e = .returned (.bool (decide (pastP k))) /\ w = w' := by
 by_cases h5 : k = 5
 ·subst h5
  go_enter Tryz.func124, Tryz.ntmps124
  go_wp2;go_ret;exact ⟨ret_bool (by decide), rfl⟩
 ·by_cases h6 : k = 6
  ·subst h6
   go_enter Tryz.func124, Tryz.ntmps124
   go_wp2;go_ret;exact ⟨ret_bool (by decide), rfl⟩
  ·have hP : decide (pastP k) = false := decide_eq_false (by unfold pastP; omega);rw [hP];have e5 := int_ne h5; have e6 := int_ne h6;clear hP
   go_enter Tryz.func124, Tryz.ntmps124
   go_wp2;go_ret;exact ⟨rfl, rfl⟩
theorem isParent_any (k : Int) (w : World) : Calls Tryz.prog 125 #[.int .i64 k] w fun e w' => e = .returned (.bool (decide (parentP k))) /\ w = w' := by
 by_cases h5 : k = 2
 ·subst h5
  go_enter Tryz.func125, Tryz.ntmps125
  go_wp2;go_ret;exact ⟨ret_bool (by decide), rfl⟩
 ·by_cases h6 : k = 3
  ·subst h6
   go_enter Tryz.func125, Tryz.ntmps125
   go_wp2;go_ret;exact ⟨ret_bool (by decide), rfl⟩
  ·have hP : decide (parentP k) = false := decide_eq_false (by unfold parentP; omega);rw [hP];have e5 := int_ne h5; have e6 := int_ne h6;clear hP
   go_enter Tryz.func125, Tryz.ntmps125
   go_wp2;go_ret;exact ⟨rfl, rfl⟩
def mayC (k c : Int) : Prop := k = 2 \/ (k = 3 /\ (c = 1 \/ c = 2 \/ c = 3))
instance {k c : Int} : Decidable (mayC k c) := by unfold mayC; infer_instance
theorem mayHave_any (k c : Int) (w : World) : Calls Tryz.prog 123 #[.int .i64 k, .int .i64 c] w fun e w' => e = .returned (.bool (decide (mayC k c))) /\ w = w' := by
 by_cases h2 : k = 2
 ·subst h2;have hP : decide (mayC 2 c) = true := decide_eq_true (Or.inl rfl);rw [hP]
  go_enter Tryz.func123, Tryz.ntmps123
  go_wp2;go_ret;exact ⟨rfl, rfl⟩
 ·by_cases h3 : k = 3
  ·subst h3;by_cases c1 : c = 1
   ·subst c1
    go_enter Tryz.func123, Tryz.ntmps123
    go_wp2;go_ret;exact ⟨ret_bool (by decide), rfl⟩
   ·by_cases c2 : c = 2
    ·subst c2
     go_enter Tryz.func123, Tryz.ntmps123
     go_wp2;go_ret;exact ⟨ret_bool (by decide), rfl⟩
    ·by_cases c3 : c = 3
     ·subst c3
      go_enter Tryz.func123, Tryz.ntmps123
      go_wp2;go_ret;exact ⟨ret_bool (by decide), rfl⟩
     ·have hP : decide (mayC 3 c) = false := decide_eq_false (by unfold mayC; omega);rw [hP];have e1 := int_ne c1; have e2 := int_ne c2; have e3 := int_ne c3;clear hP
      go_enter Tryz.func123, Tryz.ntmps123
      go_wp2;go_ret;exact ⟨rfl, rfl⟩
  ·have hP : decide (mayC k c) = false := decide_eq_false (by unfold mayC; omega);rw [hP];have e2 := int_ne h2; have e3 := int_ne h3;clear hP
   go_enter Tryz.func123, Tryz.ntmps123
   go_wp2;go_ret;exact ⟨rfl, rfl⟩
set_option maxHeartbeats 1000000 in
theorem parent_any (v : Value) (xs : List SM) (i : Nat) (w : World) (hR : RdT w v xs) (hi : i < xs.length) (hl : xs.length <= 4611686018427387904) :
 Calls Tryz.prog 159 #[v, .int .i64 i] w fun e w' => e = .returned (.int .i64 (par (dp xs) i)) /\ ∃ n, w' = w.drewN n := by
 obtain ⟨A, c, rfl⟩ := hR.form;obtain ⟨b, o, rfl, hb, hc⟩ := hR.base (by omega);obtain ⟨n, hn⟩ : ∃ n, xs.length = n := ⟨_, rfl⟩
 have HC : Hid (∀ m, m < n -> w.cell? ⟨b, o + m * 6 + 2, none⟩ = some (.int .i64 (dp xs m))) := fun m hm => (hc m (by omega)).2.2.1
 have hdi : w.cell? ⟨b, o + i * 6 + 2, none⟩ = some (.int .i64 (dp xs i)) := HC.out i (by omega);rw [hn] at hi hl ⊢;clear hR hn hc;unfold par;generalize dp xs = d at *
 go_enter Tryz.func159, Tryz.ntmps159
 go_wp2
 go_loopw [5] (fun x5 wr => ∃ k m : Nat, k <= i /\ wr = w.drewN m /\ x5 = .int .i64 ((k : Int) - 1) /\ Hid (parF d i k = parF d i i)) (fun x _ => (intOf x + 1).toNat)
 case atStart => exact ⟨i, 0, by omega, rfl, by go_num, rfl⟩
 case round =>
  obtain ⟨k, m, hk, rfl, hx, HP⟩ := hrel;cases k with
  | zero =>
   have hx' : _ = Value.int .i64 (-1) := hx;subst hx';have hr : parF d i i = -1 := HP.out.symm;have HRR := Lib.hid hr;clear hr HP;go_wp2
   go_quiet (fail)
   go_wp2;go_ret;exact ⟨ret_int HRR.out.symm, m + nq, World.drewN_drewN _ _ _⟩
  | succ j =>
   rw [show ((j + 1 : Nat) : Int) - 1 = (j : Int) by omega] at hx;subst hx;have hdj := HC.out j (by omega);have hst := parF_succ d i j;rw [HP.out] at hst;by_cases hle : d i <= d j
   ·rw [if_pos hle] at hst;have HRR := Lib.hid hst.symm;clear hst HP;go_wp2
    go_quiet (fail)
    go_wp2
    go_roundw
    case rel => exact ⟨j, m + nq, by omega, rfl, by go_num, HRR.out⟩
    case measure => simp [intOf] <;> omega
   ·rw [if_neg hle] at hst;have HRR := Lib.hid hst;have hlt : d j < d i := by omega
    clear hst HP hle;go_wp2
    go_quiet (fail)
    go_wp2;go_ret;exact ⟨ret_int HRR.out.symm, m + nq, World.drewN_drewN _ _ _⟩
set_option maxHeartbeats 1000000 in
theorem end_any (v : Value) (xs : List SM) (i : Nat) (w : World) (hR : RdT w v xs) (hi : i < xs.length) (hl : xs.length <= 4611686018427387904) :
 Calls Tryz.prog 157 #[v, .int .i64 i] w fun e w' => e = .returned (.int .i64 (en (dp xs) xs.length i)) /\ ∃ n, w' = w.drewN n := by
 obtain ⟨A, c, rfl⟩ := hR.form;obtain ⟨b, o, rfl, hb, hc⟩ := hR.base (by omega);obtain ⟨n, hn⟩ : ∃ n, xs.length = n := ⟨_, rfl⟩
 have HC : Hid (∀ m, m < n -> w.cell? ⟨b, o + m * 6 + 2, none⟩ = some (.int .i64 (dp xs m))) := fun m hm => (hc m (by omega)).2.2.1
 have hdi : w.cell? ⟨b, o + i * 6 + 2, none⟩ = some (.int .i64 (dp xs i)) := HC.out i (by omega);rw [hn] at hi hl ⊢;clear hR hn hc;generalize dp xs = d at *
 go_enter Tryz.func157, Tryz.ntmps157
 go_wp2
 go_loopw [5] (fun x5 wr => ∃ k m : Nat, k <= n /\ wr = w.drewN m /\ x5 = .int .i64 k /\ Hid (i < k /\ endF d i (n - k) k = en d n i)) (fun x _ => n - (intOf x).toNat)
 case atStart => exact ⟨i + 1, 0, by omega, rfl, by go_num, by omega, rfl⟩
 case round =>
  obtain ⟨k, m, hk, rfl, rfl, HP⟩ := hrel;by_cases hkn : k < n
  ·have hdk := HC.out k hkn;have hst := endF_succ d i (n - (k + 1)) k;rw [show n - (k + 1) + 1 = n - k by omega, HP.out.2] at hst;have HIK := Lib.hid HP.out.1;by_cases hlt : d i < d k
   ·rw [if_pos hlt] at hst;have HRR := Lib.hid hst.symm;clear hst HP;go_wp2
    go_quiet (fail)
    go_wp2
    go_roundw
    case rel => exact ⟨k + 1, m + nq, by omega, rfl, by go_num, Nat.lt_succ_of_lt HIK.out, HRR.out⟩
    case measure => simp [intOf] <;> omega
   ·rw [if_neg hlt] at hst;have HRR := Lib.hid hst;have hle : d k <= d i := by omega
    clear hst HP hlt;go_wp2
    go_quiet (fail)
    go_wp2;go_ret;exact ⟨ret_int (by rw [HRR.out]), m + nq, World.drewN_drewN _ _ _⟩
  ·have hr : en d n i = k := by rw [<- HP.out.2, show n - k = 0 by omega]; rfl
   have HRR := Lib.hid hr;have hdf : decide ((k : Int) < n) = false := decide_eq_false (by omega);clear hr HP;go_wp2
   go_quiet (fail)
   go_wp2;go_ret;exact ⟨ret_int (by rw [HRR.out]), m + nq, World.drewN_drewN _ _ _⟩
set_option maxHeartbeats 1000000 in
theorem refParent_any (v : Value) (xs : List SM) (i : Nat) (w : World) (hR : RdT w v xs) (hi : i < xs.length) (hl : xs.length <= 4611686018427387904) (hN : Nst (dp xs) xs.length) :
 Calls Tryz.prog 54 #[v, .int .i64 i] w fun e w' => e = .returned (.int .i64 (par (dp xs) i)) /\ ∃ n, w' = w.drewN n := by
 obtain ⟨A, c, rfl⟩ := hR.form;obtain ⟨b, o, rfl, hb, hc⟩ := hR.base (by omega);obtain ⟨n, hn⟩ : ∃ n, xs.length = n := ⟨_, rfl⟩
 have HC : Hid (∀ m, m < n -> w.cell? ⟨b, o + m * 6 + 2, none⟩ = some (.int .i64 (dp xs m))) := fun m hm => (hc m (by omega)).2.2.1
 have hdi : w.cell? ⟨b, o + i * 6 + 2, none⟩ = some (.int .i64 (dp xs i)) := HC.out i (by omega);rw [hn] at hi hl hN ⊢;clear hR hn hc;generalize dp xs = d at *
 have hlo := hN.lo i hi;have hhi := hN.hi i hi;have HE := Lib.hid (hN.las hi);clear hN
 go_enter Tryz.func54, Tryz.ntmps54
 go_wp2
 go_loopw [5, 6] (fun x5 x6 wr => ∃ k m : Nat, k <= i /\ wr = w.drewN m /\ x6 = .int .i64 k /\ x5 = .int .i64 (lasF d i k)) (fun _ x _ => i - (intOf x).toNat)
 case atStart => exact ⟨0, 0, by omega, rfl, rfl, rfl⟩
 case round =>
  obtain ⟨k, m, hk, rfl, rfl, rfl⟩ := hrel;by_cases hki : k < i
  ·have hdk := HC.out k (by omega);have hst := lasF_succ d i k;by_cases he : d k = d i - 1
   ·rw [if_pos he] at hst;have HST := Lib.hid hst;rw [he] at hdk;clear hst;go_wp2
    go_quiet (fail)
    go_wp2
    go_roundw
    case rel => exact ⟨k + 1, m + nq, by omega, rfl, by go_num, by rw [HST.out]⟩
    case measure => simp [intOf] <;> omega
   ·rw [if_neg he] at hst;have HST := Lib.hid hst;clear hst;have hne := int_ne he;go_wp2
    go_quiet (fail)
    go_wp2
    go_roundw
    case rel => exact ⟨k + 1, m + nq, by omega, rfl, by go_num, by rw [HST.out]⟩
    case measure => simp [intOf] <;> omega
  ·obtain rfl : k = i := by omega
   go_wp2;go_ret;exact ⟨ret_int HE.out, m, rfl⟩
end Go.Proofs.YtgjeofaedidnpaaGreatDoor.Tr
namespace Go.Proofs.YtgjeofaedidnpaaGreatDoor.Ch.Vd
open Go.RowKit
theorem flat_vm (vs : List VM) : Go.Proofs.YtgjeofaedidnpaaGreatDoor.flatV (vs.map vm) = Ch.flatV vs := by
 unfold Go.Proofs.YtgjeofaedidnpaaGreatDoor.flatV Ch.flatV;rw [List.flatMap_map];rfl
theorem _root_.Go.Proofs.YtgjeofaedidnpaaGreatDoor.Ch.BlkR.form {w : World} {v : Value} {l : List AM} (h : BlkR w v l) : ∃ A c, v = .slice A l.length c := by
 obtain ⟨ps, h1, h2, _⟩ := h;obtain ⟨A, c, e⟩ := h2.form;exact ⟨A, c, by rw [e, <- h1, List.length_map]⟩
theorem _root_.Go.Proofs.YtgjeofaedidnpaaGreatDoor.Ch.GdR.form {w : World} {v : Value} {l : List CM} (h : GdR w v l) : ∃ A c, v = .slice A l.length c := by
 exact h.1.slice
def toT (p : SP) : Tr.SM := match p.2.1, p.2.2 with
 | .slice a n c, .slice a' n' c' => ⟨⟨p.1.nm.toArray⟩, p.1.kd, p.1.dp, ⟨p.1.ini.toArray⟩, a, n, c, a', n', c'⟩
 | _, _ => ⟨⟨p.1.nm.toArray⟩, p.1.kd, p.1.dp, ⟨p.1.ini.toArray⟩, none, 0, 0, none, 0, 0⟩
theorem toT_k (p : SP) : (toT p).k = p.1.kd := by unfold toT; split <;> rfl
theorem toT_d (p : SP) : (toT p).d = p.1.dp := by unfold toT; split <;> rfl
theorem stV_toT {w : World} {p : SP} (h : StR w p) : Tr.stV (toT p) = Ch.stV p := by
 obtain ⟨s, v1, v2⟩ := p;obtain ⟨A1, c1, e1⟩ := h.1.form;obtain ⟨A2, c2, e2⟩ := h.2.form;simp only at e1 e2;subst e1; subst e2;rfl
theorem flat_toT {w : World} : ∀ (sp : List SP), (∀ p ∈ sp, StR w p) -> Tr.flatT (sp.map toT) = Ch.flatS sp
 | [], _ => rfl
 | p :: r, h => by
  show Tr.stV (toT p) ++ Tr.flatT (r.map toT) = Ch.stV p ++ Ch.flatS r;rw [stV_toT (h p List.mem_cons_self), flat_toT r (fun q hq => h q (List.mem_cons_of_mem _ hq))]
section
variable {w : World} {c : CH} {eV vV sV tV : Value} {sp : List SP} {tp : List TP}
theorem dp_toT (h : ChM w c eV vV sV tV sp tp) : Tr.dp (sp.map toT) = dC c.ss := by
 funext i
 unfold Tr.dp dC;rw [<- h.ssE, List.getElem?_map, List.getElem?_map];cases sp[i]? with
 | none => rfl
 | some p => exact toT_d p
theorem kp_toT (h : ChM w c eV vV sV tV sp tp) : Tr.kp (sp.map toT) = kC c.ss := by
 funext i
 unfold Tr.kp kC;rw [<- h.ssE, List.getElem?_map, List.getElem?_map];cases sp[i]? with
 | none => rfl
 | some p => exact toT_k p
theorem _root_.Go.Proofs.YtgjeofaedidnpaaGreatDoor.Ch.ChM.sLen (h : ChM w c eV vV sV tV sp tp) : sp.length = c.ss.length := by rw [<- h.ssE, List.length_map]
theorem _root_.Go.Proofs.YtgjeofaedidnpaaGreatDoor.Ch.ChM.tLen (h : ChM w c eV vV sV tV sp tp) : tp.length = c.ts.length := by rw [<- h.tsE, List.length_map]
theorem _root_.Go.Proofs.YtgjeofaedidnpaaGreatDoor.Ch.ChM.rdT (h : ChM w c eV vV sV tV sp tp) : Tr.RdT w sV (sp.map toT) := by
 unfold Tr.RdT;rw [flat_toT sp h.sd, List.length_map];exact h.ss
theorem _root_.Go.Proofs.YtgjeofaedidnpaaGreatDoor.Ch.ChM.rdV (h : ChM w c eV vV sV tV sp tp) : RdV w vV (vmL c) := by
 unfold RdV vmL;rw [flat_vm, List.length_map];exact h.vs
theorem _root_.Go.Proofs.YtgjeofaedidnpaaGreatDoor.Ch.ChM.rdW (h : ChM w c eV vV sV tV sp tp) : RdW w eV c.es := h.es
theorem _root_.Go.Proofs.YtgjeofaedidnpaaGreatDoor.Ch.ChM.forms (h : ChM w c eV vV sV tV sp tp) : (∃ A k, eV = .slice A c.es.length k) /\ (∃ A k, vV = .slice A c.vs.length k) /\ (∃ A k, sV = .slice A sp.length k) /\ (∃ A k, tV = .slice A tp.length k) :=
 ⟨Inn.form h.es, Inn.form h.vs, Inn.form h.ss, Inn.form h.ts⟩
end
abbrev chA (c : CH) (eV vV sV tV : Value) : Value := .agg #[bstr c.nm, eV, vV, sV, tV]
end Go.Proofs.YtgjeofaedidnpaaGreatDoor.Ch.Vd
namespace Go.Proofs.YtgjeofaedidnpaaGreatDoor.Ch.Vd
open Go.RowKit
theorem unless_any (b : Bool) (e : Int) (w : World) : Calls Tryz.prog 33 #[.bool b, .int .i64 e] w fun x w' => x = .returned (.int .i64 (unE b e)) /\ w' = w := by
 cases b
 ·go_enter Tryz.func33, Tryz.ntmps33
  go_wp2;go_ret;exact ⟨rfl, rfl⟩
 ·go_enter Tryz.func33, Tryz.ntmps33
  go_wp2;go_ret;exact ⟨rfl, rfl⟩
theorem vParent_any (k : Int) (w : World) : Calls Tryz.prog 132 #[.int .i64 k] w fun e w' => e = .returned (.bool (decide (Tr.parentP k))) /\ w' = w := by
 by_cases h5 : k = 2
 ·subst h5
  go_enter Tryz.func132, Tryz.ntmps132
  go_wp2;go_ret;exact ⟨ret_bool (by decide), rfl⟩
 ·by_cases h6 : k = 3
  ·subst h6
   go_enter Tryz.func132, Tryz.ntmps132
   go_wp2;go_ret;exact ⟨ret_bool (by decide), rfl⟩
  ·have hP : decide (Tr.parentP k) = false := decide_eq_false (by unfold Tr.parentP; omega);rw [hP];have e5 := int_ne h5; have e6 := int_ne h6;clear hP
   go_enter Tryz.func132, Tryz.ntmps132
   go_wp2;go_ret;exact ⟨rfl, rfl⟩
theorem vHistory_any (v0 v3 v4 v5 : Value) (k d : Int) (w : World) (h0 : ∃ X, v0 = .string X) (h3 : ∃ X, v3 = .string X) (h4 : ∃ A n c, v4 = .slice A n c) (h5 : ∃ A n c, v5 = .slice A n c) :
 Calls Tryz.prog 87 #[.agg #[v0, .int .i64 k, .int .i64 d, v3, v4, v5]] w fun e w' => e = .returned (.bool (decide (Tr.pastP k))) /\ Below w.heap.size w w' := by
 obtain ⟨X, rfl⟩ := h0; obtain ⟨Y, rfl⟩ := h3; obtain ⟨A4, n4, c4, rfl⟩ := h4; obtain ⟨A5, n5, c5, rfl⟩ := h5;have HB := Lib.hid ((Below.refl w.heap.size w).alloc (Nat.le_refl _) (.cells #[.string X, .int .i64 k, .int .i64 d, .string Y, .slice A4 n4 c4, .slice A5 n5 c5] 39));by_cases h5 : k = 5
 ·subst h5
  go_enter Tryz.func87, Tryz.ntmps87
  go_wp2;go_ret;exact ⟨ret_bool (by decide), HB.out⟩
 ·by_cases h6 : k = 6
  ·subst h6
   go_enter Tryz.func87, Tryz.ntmps87
   go_wp2;go_ret;exact ⟨ret_bool (by decide), HB.out⟩
  ·have hP : decide (Tr.pastP k) = false := decide_eq_false (by unfold Tr.pastP; omega);rw [hP];have e5 := int_ne h5; have e6 := int_ne h6;clear hP
   go_enter Tryz.func87, Tryz.ntmps87
   go_wp2;go_ret;exact ⟨rfl, HB.out⟩
theorem box_c (w : World) (x0 x1 x2 x3 x4 : Value) : ∃ w1, w1 = w.alloc (.cells #[x0, x1, x2, x3, x4] 27) /\ Below w.heap.size w w1 /\ w1.heap.size = w.heap.size + 1 /\
 w1.cell? ⟨w.heap.size, 0, none⟩ = some x0 /\ w1.cell? ⟨w.heap.size, 1, none⟩ = some x1 /\ w1.cell? ⟨w.heap.size, 2, none⟩ = some x2 /\ w1.cell? ⟨w.heap.size, 3, none⟩ = some x3 /\ w1.cell? ⟨w.heap.size, 4, none⟩ = some x4 :=
 ⟨_, rfl, (Below.refl _ _).alloc (Nat.le_refl _) _, by simp, by simp, by simp, by simp, by simp, by simp⟩
theorem isShort_any {w : World} {c : CH} {eV vV sV tV : Value} {sp : List SP} {tp : List TP} (h : ChM w c eV vV sV tV sp tp) :
 Calls Tryz.prog 34 #[chA c eV vV sV tV] w fun e w' => e = .returned (.bool (shortB c)) /\ Below w.heap.size w w' := by
 obtain ⟨N, hN, hNl⟩ := bstr_some c.nm;obtain ⟨⟨A1, k1, rfl⟩, ⟨A2, k2, rfl⟩, ⟨A3, k3, rfl⟩, ⟨A4, k4, rfl⟩⟩ := h.forms;have hs : shortB c = (decide (c.es.length <= 12) && (decide (c.vs.length <= 8) && (decide (sp.length <= 40) && decide (tp.length <= 48)))) := by rw [h.sLen, h.tLen]; rfl
 rw [hs];unfold chA;rw [hN];clear h hN hNl hs;generalize c.es.length = n1; generalize c.vs.length = n2; generalize sp.length = n3; generalize tp.length = n4;obtain ⟨w1, hw1, hb1, hz1, d0, d1, d2, d3, d4⟩ := box_c w (.string N) (.slice A1 n1 k1) (.slice A2 n2 k2) (.slice A3 n3 k3) (.slice A4 n4 k4);have HW := Lib.hid hw1; have HB := Lib.hid hb1;clear hw1 hb1;by_cases h1 : n1 <= 12
 ·have q1 : decide (n1 <= 12) = true := decide_eq_true h1;have e1 : decide ((n1 : Int) <= 12) = true := decide_eq_true (by omega);by_cases h2 : n2 <= 8
  ·have q2 : decide (n2 <= 8) = true := decide_eq_true h2;have e2 : decide ((n2 : Int) <= 8) = true := decide_eq_true (by omega);by_cases h3 : n3 <= 40
   ·have q3 : decide (n3 <= 40) = true := decide_eq_true h3;have e3 : decide ((n3 : Int) <= 40) = true := decide_eq_true (by omega);have e4 : decide ((n4 : Int) <= 48) = decide (n4 <= 48) := by rw [decide_eq_decide]; omega
    rw [q1, q2, q3];clear q1 q2 q3
    go_enter Tryz.func34, Tryz.ntmps34
    go_wp2_with fail
    rw [<- HW.out];go_wp2;go_ret;exact ⟨rfl, HB.out⟩
   ·have q3 : decide (n3 <= 40) = false := decide_eq_false h3;have e3 : decide ((n3 : Int) <= 40) = false := decide_eq_false (by omega);rw [q1, q2, q3];clear q1 q2 q3
    go_enter Tryz.func34, Tryz.ntmps34
    go_wp2_with fail
    rw [<- HW.out];go_wp2;go_ret;exact ⟨rfl, HB.out⟩
  ·have q2 : decide (n2 <= 8) = false := decide_eq_false h2;have e2 : decide ((n2 : Int) <= 8) = false := decide_eq_false (by omega);rw [q1, q2];clear q1 q2
   go_enter Tryz.func34, Tryz.ntmps34
   go_wp2_with fail
   rw [<- HW.out];go_wp2;go_ret;exact ⟨rfl, HB.out⟩
 ·have q1 : decide (n1 <= 12) = false := decide_eq_false h1;have e1 : decide ((n1 : Int) <= 12) = false := decide_eq_false (by omega);rw [q1];clear q1
  go_enter Tryz.func34, Tryz.ntmps34
  go_wp2_with fail
  rw [<- HW.out];go_wp2;go_ret;exact ⟨rfl, HB.out⟩
theorem first_any (n : Nat) (f : FuncId) (lb : Array Value) (E : Nat -> Int) (w : World) (hn : n <= 4611686018427387904) (hent : ∀ args w, (callFunc f args).run Tryz.prog w = .ok (.enter f args) w)
 (hask : ∀ W i, Below w.heap.size w W -> i < n -> Calls Tryz.prog f (#[.int .i64 i] ++ lb) W fun e w' => e = .returned (.int .i64 (E i)) /\ Below W.heap.size W w') :
 Calls Tryz.prog 42 #[.int .i64 n, .func (.func f) #[] lb] w fun e w' => e = .returned (.int .i64 (firE E n)) /\ Below w.heap.size w w' := by
 have HA := Lib.hid hask; clear hask
 go_enter Tryz.func42, Tryz.ntmps42
 go_wp2
 go_loopw [5, 6, 8] (fun x5 x6 i wr => (x5 = x5 /\ x6 = x6) /\ ∃ k : Nat, k <= n /\ i = .int .i64 k /\ Hid (firF E (n - k) k = firE E n) /\ Below w.heap.size w wr) (fun _ _ i _ => n - (intOf i).toNat)
 case atStart => exact ⟨⟨rfl, rfl⟩, 0, by omega, rfl, rfl, Below.refl _ _⟩
 case round =>
  obtain ⟨_, k, hk, rfl, HI, hb⟩ := hrel;have HBL := Lib.hid hb;by_cases hkn : k < n
  ·have HC := Lib.hid (HA.out wr k hb hkn);have hst := firF_step E hkn;rw [HI.out] at hst;have HS := Lib.hid hst;clear hb hst;by_cases he : E k = 0
   ·have hr : firF E (n - (k + 1)) (k + 1) = firE E n := by rw [HS.out, if_neg (fun h => h he)]
    have HR := Lib.hid hr;have HE := Lib.hid he;clear hr he
    go_wp2_with fail
    refine HC.out.mono ?_;rintro e w1 ⟨rfl, hb1⟩;rw [HE.out];have HB1 := Lib.hid (HBL.out.trans (hb1.mono HBL.out.size)); clear hb1;go_wp2
    go_roundw
    case rel => exact ⟨⟨trivial, trivial⟩, k + 1, by omega, by go_num, HR.out, HB1.out⟩
    case measure => simp [intOf]; omega
   ·have hr : E k = firE E n := by rw [HS.out, if_pos he]
    have HR := Lib.hid hr;have hne := int_ne he;obtain ⟨ek, hek⟩ : ∃ x, E k = x := ⟨_, rfl⟩
    rw [hek] at hne HR HC;clear hr he hek
    go_wp2_with fail
    refine HC.out.mono ?_;rintro e w1 ⟨rfl, hb1⟩;have HB1 := Lib.hid (HBL.out.trans (hb1.mono HBL.out.size)); clear hb1;go_wp2;go_ret;exact ⟨ret_int HR.out, HB1.out⟩
  ·have hr : (0 : Int) = firE E n := by rw [<- HI.out, firF_end E hkn]
   have HR := Lib.hid hr;clear hr;go_wp2;go_ret;exact ⟨ret_int HR.out, HBL.out⟩
end Go.Proofs.YtgjeofaedidnpaaGreatDoor.Ch.Vd
namespace Go.Proofs.YtgjeofaedidnpaaGreatDoor.Ch.Vd
open Go.RowKit
set_option maxRecDepth 100000
theorem called9_any (X Y N : ByteArray) (k d : Int) (v4 v5 : Value) (g : Nat) (w : World) (hg : g < w.heap.size) (hN : w.cell? ⟨g, 0, none⟩ = some (.string N)) (h4 : ∃ A n c, v4 = .slice A n c) (h5 : ∃ A n c, v5 = .slice A n c) :
 Calls Tryz.prog 27 #[.agg #[.string X, .int .i64 k, .int .i64 d, .string Y, v4, v5], .pointer (some ⟨g, 0, none⟩)] w fun e w' => e = .returned (.bool (decide (X.data.toList = N.data.toList))) /\ Below w.heap.size w w' := by
 obtain ⟨A4, n4, c4, rfl⟩ := h4; obtain ⟨A5, n5, c5, rfl⟩ := h5;have HB : Hid (∀ W : World, ∀ o : Obj, Below W.heap.size W (W.alloc o)) := fun W o => (Below.refl _ _).alloc (Nat.le_refl _) o
 have hne0 : w.heap.size ≠ g := by omega
 by_cases he : X.data.toList = N.data.toList
 ·obtain rfl := str_eq he;rw [decide_eq_true he];clear he
  go_enter Tryz.func27, Tryz.ntmps27
  go_wp2;go_ret;exact ⟨rfl, HB.out _ _⟩
 ·have hne := str_ne he;have hne' := str_ne (Ne.symm he);rw [decide_eq_false he];clear he
  go_enter Tryz.func27, Tryz.ntmps27
  go_wp2;go_ret;exact ⟨rfl, HB.out _ _⟩
theorem st_at {w : World} {A : Option Addr} {m cp : Nat} {sp : List SP} {n : Nat} (hR : Inn w 6 (.slice A m cp) n (flatS sp)) (hn : sp.length = n) (hd : ∀ p ∈ sp, StR w p) {k : Nat} (hk : k < sp.length) :
 ∃ b o X Y A4 n4 c4 A5 n5 c5, A = some ⟨b, o, none⟩ /\ b < w.heap.size /\ X.data.toList = (sp[k]).1.nm /\ Y.data.toList = (sp[k]).1.ini /\ Hid (n4 = (sp[k]).1.en.length) /\ Hid (n5 = (sp[k]).1.ex.length) /\ (sp[k]).2.1 = .slice A4 n4 c4 /\ (sp[k]).2.2 = .slice A5 n5 c5 /\
  w.cell? ⟨b, o + k * 6, none⟩ = some (.string X) /\ w.cell? ⟨b, o + k * 6 + 1, none⟩ = some (.int .i64 (sp[k]).1.kd) /\ w.cell? ⟨b, o + k * 6 + 2, none⟩ = some (.int .i64 (sp[k]).1.dp) /\ w.cell? ⟨b, o + k * 6 + 3, none⟩ = some (.string Y) /\ w.cell? ⟨b, o + k * 6 + 4, none⟩ = some (.slice A4 n4 c4) /\ w.cell? ⟨b, o + k * 6 + 5, none⟩ = some (.slice A5 n5 c5) := by
 subst hn;obtain ⟨b, o, rfl, hb, hc⟩ := hR.at_ hk;obtain ⟨A4, c4, e4⟩ := (hd _ (List.getElem_mem hk)).1.form;obtain ⟨A5, c5, e5⟩ := (hd _ (List.getElem_mem hk)).2.form;obtain ⟨X, hX, hXl⟩ := bstr_some (sp[k]).1.nm;obtain ⟨Y, hY, hYl⟩ := bstr_some (sp[k]).1.ini;have f := fun j u (h : (stV sp[k])[j]? = some u) (hj : j < 6) => hc j u ((flatM_at stV 6 (fun _ => rfl) hk hj).trans h)
 have f4 := f 4 (sp[k]).2.1 rfl (by omega);have f5 := f 5 (sp[k]).2.2 rfl (by omega);have f0 := f 0 (bstr (sp[k]).1.nm) rfl (by omega);have f3 := f 3 (bstr (sp[k]).1.ini) rfl (by omega);rw [e4] at f4; rw [e5] at f5; rw [hX] at f0; rw [hY] at f3;exact ⟨b, o, X, Y, A4, _, c4, A5, _, c5, rfl, hb, hXl, hYl, Lib.hid rfl, Lib.hid rfl, e4, e5, f0, f 1 _ rfl (by omega), f 2 _ rfl (by omega), f3, f4, f5⟩
set_option maxHeartbeats 2000000 in
theorem stIndex_any (A : Option Addr) (cp : Nat) (sp : List SP) (N : ByteArray) (g : Nat) (w : World) (hR : Inn w 6 (.slice A sp.length cp) sp.length (flatS sp)) (hd : ∀ p ∈ sp, StR w p) (hl : sp.length <= 4611686018427387904) (hg : g < w.heap.size) (hN : w.cell? ⟨g, 0, none⟩ = some (.string N)) :
 Calls Tryz.prog 26 #[.slice A sp.length cp, .func (.func 27) #[] #[.pointer (some ⟨g, 0, none⟩)]] w fun e w' => e = .returned (.int .i64 (ixP (isS N.data.toList) (sp.map Prod.fst) 0)) /\ Below w.heap.size w w' := by
 have HR := Lib.hid hR; have HD := Lib.hid hd; clear hR hd;obtain ⟨n, hn⟩ : ∃ n, sp.length = n := ⟨_, rfl⟩
 have HN := Lib.hid hn;have HML : Hid ((sp.map Prod.fst).length = n) := by show _ = _; rw [List.length_map, hn]
 rw [hn] at hl HR ⊢;clear hn;have HNM := Lib.hid hN; clear hN
 go_enter Tryz.func26, Tryz.ntmps26
 go_wp2
 go_loopw [4, 5, 8] (fun x4 x5 i wr => x4 = .int .i64 0 /\ (x5 = .int .i64 0 \/ True) /\ ∃ k : Nat, k <= n /\ i = .int .i64 k /\ Hid (ixP (isS N.data.toList) ((sp.map Prod.fst).drop k) k = ixP (isS N.data.toList) (sp.map Prod.fst) 0) /\ Below w.heap.size w wr) (fun _ _ i _ => n - (intOf i).toNat)
 case atStart => exact ⟨rfl, Or.inr trivial, 0, by omega, rfl, rfl, Below.refl _ _⟩
 case round =>
  obtain ⟨rfl, _, k, hk, rfl, HI, hb⟩ := hrel;have HBL := Lib.hid hb;by_cases hkn : k < n
  ·obtain ⟨b, o, X, Y, A4, n4, c4, A5, n5, c5, rfl, _, hX, _, _, _, _, _, e0, e1, e2, e3, e4, e5⟩ := st_at (HR.out.below hb) HN.out (fun p hp => (HD.out p hp).below hb) (k := k) (by rw [HN.out]; exact hkn);have hst := ix_step (p := isS N.data.toList) (l := sp.map Prod.fst) (k := k) (by rw [HML.out]; exact hkn);rw [HI.out] at hst;have hiv : isS N.data.toList ((sp.map Prod.fst)[k]'(by rw [HML.out]; exact hkn)) = decide (X.data.toList = N.data.toList) := by rw [hX, List.getElem_map]; rfl
   rw [hiv] at hst;generalize (sp[k]'(by rw [HN.out]; exact hkn)).1.kd = kd at *
   generalize (sp[k]'(by rw [HN.out]; exact hkn)).1.dp = dd at *
   have HC := Lib.hid (called9_any X Y N kd dd (.slice A4 n4 c4) (.slice A5 n5 c5) g wr (by have := HBL.out.size; omega) ((hb.cell hg).trans HNM.out) ⟨_, _, _, rfl⟩ ⟨_, _, _, rfl⟩);clear hX hb hiv;by_cases he : X.data.toList = N.data.toList
   ·have hr : ixP (isS N.data.toList) (sp.map Prod.fst) 0 = k := by rw [hst, if_pos (by simp [he])]
    have HRR := Lib.hid hr;have HE := Lib.hid (decide_eq_true he);clear hst hr he HI
    go_wp2_with fail
    refine HC.out.mono ?_;rintro e w1 ⟨rfl, hb1⟩;rw [HE.out];have HB1 := Lib.hid (HBL.out.trans (hb1.mono HBL.out.size)); clear hb1;go_wp2;go_ret;exact ⟨ret_int HRR.out.symm, HB1.out⟩
   ·have hr : ixP (isS N.data.toList) ((sp.map Prod.fst).drop (k + 1)) (k + 1) = ixP (isS N.data.toList) (sp.map Prod.fst) 0 := by rw [hst, if_neg (by simp [he])]
    have HRR := Lib.hid hr;have HE := Lib.hid (decide_eq_false he);clear hst hr he HI
    go_wp2_with fail
    refine HC.out.mono ?_;rintro e w1 ⟨rfl, hb1⟩;rw [HE.out];have HB1 := Lib.hid (HBL.out.trans (hb1.mono HBL.out.size)); clear hb1;go_wp2
    go_roundw
    case rel => exact ⟨rfl, Or.inr trivial, k + 1, by omega, by go_num, HRR.out, HB1.out⟩
    case measure => simp [intOf]; omega
  ·have hr : ixP (isS N.data.toList) (sp.map Prod.fst) 0 = -1 := by rw [<- HI.out, ix_end (by rw [HML.out]; exact hkn)]
   have HRR := Lib.hid hr;clear hr HI;go_wp2;go_ret;exact ⟨ret_int HRR.out.symm, HBL.out⟩
theorem place_any {w : World} {c : CH} {eV vV sV tV : Value} {sp : List SP} {tp : List TP} (h : ChM w c eV vV sV tV sp tp) (hl : sp.length <= 4611686018427387904) (N : ByteArray) :
 Calls Tryz.prog 12 #[chA c eV vV sV tV, .string N] w fun e w' => e = .returned (.int .i64 (placeC c.ss N.data.toList)) /\ Below w.heap.size w w' := by
 obtain ⟨M, hM, hMl⟩ := bstr_some c.nm;have hR := h.ss; have hd := h.sd; have hE := h.ssE;obtain ⟨⟨A1, k1, rfl⟩, ⟨A2, k2, rfl⟩, ⟨A3, k3, rfl⟩, ⟨A4, k4, rfl⟩⟩ := h.forms;unfold chA;rw [hM];generalize c.es.length = n1; generalize c.vs.length = n2; generalize tp.length = n4;obtain ⟨w1, hw1⟩ : ∃ W, W = (w.alloc (.cells #[.string M, .slice A1 n1 k1, .slice A2 n2 k2, .slice A3 sp.length k3, .slice A4 n4 k4] 27)).alloc (.cells #[.string N] 9) := ⟨_, rfl⟩
 have hb1 : Below w.heap.size w w1 := hw1 ▸ ((Below.refl _ _).alloc (Nat.le_refl _) _).alloc (by simp) _;have d3 : w1.cell? ⟨w.heap.size, 3, none⟩ = some (.slice A3 sp.length k3) := by rw [hw1]; simp
 have hg : w1.cell? ⟨w.heap.size + 1, 0, none⟩ = some (.string N) := by rw [hw1]; simp
 have hz : w1.heap.size = w.heap.size + 2 := by rw [hw1]; simp
 have HC := Lib.hid (stIndex_any A3 k3 sp N (w.heap.size + 1) w1 (hR.below hb1) (fun p hp => (hd p hp).below hb1) hl (by omega) hg);have HW := Lib.hid hw1; have HB := Lib.hid hb1; have HE := Lib.hid hE;clear h hM hMl hR hd hE hw1 hb1;generalize sp.length = n3 at *
 go_enter Tryz.func12, Tryz.ntmps12
 go_wp2_with fail
 rw [<- HW.out]
 go_wp2_with fail
 refine HC.out.mono ?_;rintro e w2 ⟨rfl, hb2⟩;have HB2 := Lib.hid (HB.out.trans (hb2.mono HB.out.size)); clear hb2;go_wp2;go_ret;exact ⟨ret_int (by rw [HE.out]; rfl), HB2.out⟩
end Go.Proofs.YtgjeofaedidnpaaGreatDoor.Ch.Vd
