/- Own texts, joined: Ui, Ul. -/
import Derived.Test.YtcnfcililiehlaaGreatDoorR5
import Derived.Test.YtcnfcililiehlaaGreatDoorR12
import Derived.Test.YtcnfcililiehlaaGreatDoorR13
namespace Go.Proofs.YtcnfcililiehlaaGreatDoor.Tr
open Go.RowKit
def Ok1 (d kd : Nat -> Int) (m : Nat) : Prop := (1 <= kd m /\ kd m <= 6) /\ OkN d m /\ (d m = 0 -> kd m = 2)
def Ok2 (d kd : Nat -> Int) (n m : Nat) : Prop := (∀ p : Nat, p < n -> par d m = (p : Int) -> mayP (kd p) (kd m)) /\ (parentP (kd m) -> ∃ k ∈ kids d n m, ¬ pastP (kd k))
theorem right_ref {d kd : Nat -> Int} {n : Nat} : RightP d kd n ↔ 1 <= n /\ n <= 40 /\ (∀ i, i < n -> Ok1 d kd i) /\ (∀ i, i < n -> Ok2 d kd n i) /\ regs d n <= 4 := by
 constructor
 ·intro h;obtain ⟨a, b⟩ := fil_iff.1 h.fil;exact ⟨h.pos, h.le, fun i hi => ⟨(h.fine i hi).kind, nst_ok.1 h.nst i hi, (h.fine i hi).region⟩, fun i hi => ⟨fun p hp e => a i hi p hp e, b i hi⟩, h.regs⟩
 ·rintro ⟨h1, h2, h3, h4, h5⟩;exact ⟨h1, h2, nst_ok.2 fun i hi => (h3 i hi).2.1, fun i hi => ⟨(h3 i hi).1, (h3 i hi).2.2⟩, fil_iff.2 ⟨fun k hk p hp e => (h4 k hk).1 p hp e, fun i hi => (h4 i hi).2⟩, h5⟩
def anyK (kd : Nat -> Int) (l : List Nat) : Bool := l.any fun k => !decide (pastP (kd k))
theorem anyK_take {kd : Nat -> Int} {l : List Nat} {k : Nat} (h : k < l.length) : anyK kd (l.take (k + 1)) = (anyK kd (l.take k) || !decide (pastP (kd l[k]))) := by
 unfold anyK;rw [List.take_succ_eq_append_getElem h, List.any_append];simp
theorem anyK_iff {kd : Nat -> Int} {l : List Nat} : anyK kd l = true ↔ ∃ k ∈ l, ¬ pastP (kd k) := by simp [anyK]
set_option maxRecDepth 100000 in
set_option maxHeartbeats 8000000 in
theorem refRight_any (v : Value) (xs : List SM) (w : World) (hR : RdT w v xs) (hl : xs.length <= 4611686018427387904) :
 Calls Tryz.prog 57 #[v] w fun e w' => e = .returned (.bool (decide (RightP (dp xs) (kp xs) xs.length))) /\ Below w.heap.size w w' := by
 obtain ⟨A, c, rfl⟩ := hR.form;have HRP := Lib.hid (fun k W (hk : k < xs.length) (h : RdT W _ xs) hN => refParent_any (.slice A xs.length c) xs k W h hk hl hN);have HRK := Lib.hid (fun k W (hk : k < xs.length) (h : RdT W _ xs) h40 hN => refKids_any (.slice A xs.length c) xs k W h hk h40 hN);have HPA := Lib.hid past_any;have HRI := Lib.hid (right_ref (d := dp xs) (kd := kp xs) (n := xs.length));obtain ⟨n, hn⟩ : ∃ n, xs.length = n := ⟨_, rfl⟩
 have HR := Lib.hid hR;have HNN := Lib.hid hn;rw [hn] at hl HR HRP HRK HRI ⊢;clear hn;by_cases h1 : n < 1
 ·have hf : decide (RightP (dp xs) (kp xs) n) = false := decide_eq_false fun h => by have := h.pos; omega
  rw [hf];clear hf hR
  go_enter Tryz.func57, Tryz.ntmps57
  go_wp2;go_ret;exact ⟨rfl, Below.refl _ _⟩
 by_cases h40 : 40 < n
 ·have hf : decide (RightP (dp xs) (kp xs) n) = false := decide_eq_false fun h => by have := h.le; omega
  rw [hf];clear hf hR
  go_enter Tryz.func57, Tryz.ntmps57
  go_wp2;go_ret;exact ⟨rfl, Below.refl _ _⟩
 obtain ⟨b, o, rfl, hb, hc⟩ := hR.base (by rw [HNN.out]; omega);have d0 := (hc 0 (by rw [HNN.out]; omega)).2.2.1;rw [Nat.zero_mul, Nat.add_zero] at d0;have HC := Lib.hid hc; have HB := Lib.hid hb;clear hR hc hb;by_cases hz0 : dp xs 0 = 0;rotate_left
 ·have hf : decide (RightP (dp xs) (kp xs) n) = false := decide_eq_false fun h => by
   have := (nst_ok.1 h.nst 0 (by omega)); have h2 : dp xs 0 <= -1 + 1 := this.2.2; have := this.1; omega
  have hne : (dp xs 0 != 0) = true := bne_iff_ne.2 hz0;rw [hf];clear hf hz0
  go_enter Tryz.func57, Tryz.ntmps57
  go_wp2;go_ret;exact ⟨rfl, Below.refl _ _⟩
 have HZ0 := Lib.hid hz0;rw [hz0] at d0;clear hz0
 go_enter Tryz.func57, Tryz.ntmps57
 go_wp2;clear d0
 go_loopw [3, 4] (fun x3 x4 wr => ∃ k : Nat, k <= n /\ x4 = .int .i64 k /\ x3 = .int .i64 (regs (dp xs) k) /\ Hid (∀ m, m < k -> Ok1 (dp xs) (kp xs) m) /\ Below w.heap.size w wr) (fun _ x _ => n - (intOf x).toNat)
 case atStart => exact ⟨0, by omega, rfl, rfl, fun m hm => by omega, Below.refl _ _⟩
 case round =>
  obtain ⟨k, hk, rfl, rfl, HK, hbw⟩ := hrel;obtain ⟨wl, hwl⟩ : ∃ W, W = wr := ⟨_, rfl⟩
  subst hwl;have hrl := regs_le (dp xs) k;by_cases hkn : k < n
  ·have hcell : ∀ p u, w.cell? ⟨b, p, none⟩ = some u -> wl.cell? ⟨b, p, none⟩ = some u := fun p u h => (hbw.cell HB.out).trans h
   obtain ⟨c0, c1, c2, c3, c4, c5⟩ := HC.out k (by rw [HNN.out]; exact hkn);replace c0 := hcell _ _ c0; replace c1 := hcell _ _ c1; replace c2 := hcell _ _ c2; replace c3 := hcell _ _ c3; replace c4 := hcell _ _ c4; replace c5 := hcell _ _ c5;have hp1 : ∀ j, k = j + 1 -> wl.cell? ⟨b, o + j * 6 + 2, none⟩ = some (.int .i64 (dp xs j)) := fun j e => hcell _ _ (HC.out j (by rw [HNN.out]; omega)).2.2.1
   have HP1 := Lib.hid hp1;have HBX := Lib.hid (fun o => hbw.alloc hbw.size o);have hah := ahd_le (d := dp xs) (k := k) (fun m hm => (HK.out m hm).2.1);have HAH := Lib.hid hah;clear hcell hbw hp1 hah;generalize xs[k]'(by rw [HNN.out]; exact hkn) = x at *
   obtain ⟨xnm, xk, xd, xini, xea, xen, xec, xxa, xxn, xxc⟩ := x;simp only at c0 c3 c4 c5;have HX : Hid (∀ q, Below w.heap.size w ((wl.alloc (.cells #[.string xnm, .int .i64 (kp xs k), .int .i64 (dp xs k), .string xini, .slice xea xen xec, .slice xxa xxn xxc] 50)).drewN q)) := fun q => below_drewN (HBX.out _) q
   by_cases hok : OkN (dp xs) k;rotate_left
   ·have hf : decide (RightP (dp xs) (kp xs) n) = false := decide_eq_false fun h => hok (nst_ok.1 h.nst k hkn)
    have HF := Lib.hid hf;have hkp : ∃ j, k = j + 1 \/ k = 0 := by cases k with | zero => exact ⟨0, Or.inr rfl⟩ | succ j => exact ⟨j, Or.inl rfl⟩
    clear hf HK;by_cases hk1 : kp xs k < 1
    ·clear hok HP1 HAH hkp;go_wp2
     go_quiet (fail)
     go_wp2;go_ret;exact ⟨ret_bool HF.out.symm, HX.out _⟩
    have e1 : decide (kp xs k < 1) = false := decide_eq_false hk1;by_cases hk6 : 6 < kp xs k
    ·clear hok HP1 HAH hkp;go_wp2
     go_quiet (fail)
     go_wp2;go_ret;exact ⟨ret_bool HF.out.symm, HX.out _⟩
    have e2 : decide (6 < kp xs k) = false := decide_eq_false hk6;by_cases hd0 : dp xs k < 0
    ·clear hok HP1 HAH hkp;go_wp2
     go_quiet (fail)
     go_wp2;go_ret;exact ⟨ret_bool HF.out.symm, HX.out _⟩
    have e3 : decide (dp xs k < 0) = false := decide_eq_false hd0;by_cases hd5 : 5 < dp xs k
    ·clear hok HP1 HAH hkp;go_wp2
     go_quiet (fail)
     go_wp2;go_ret;exact ⟨ret_bool HF.out.symm, HX.out _⟩
    have e4 : decide (5 < dp xs k) = false := decide_eq_false hd5;obtain ⟨j, hj | hj⟩ := hkp
    ·subst hj;have e5 : decide (0 < ((j + 1 : Nat) : Int)) = true := decide_eq_true (by omega);have e7 : IntKind.i64.wrap ((j : Int) + 1 - 1) = j := by rw [Int.add_sub_cancel]; exact IntWalk.i64_in _ (by omega)
     have e8 : IntKind.i64.wrap (j : Int) = j := IntWalk.i64_in _ (by omega);have hjn : j < n := by omega
     have hgt : dp xs j + 1 < dp xs (j + 1) := by
      have h : ¬ (0 <= dp xs (j + 1) /\ dp xs (j + 1) < 6 /\ dp xs (j + 1) <= dp xs j + 1) := hok;omega
     have cj := old_cell (o := .cells #[.string xnm, .int .i64 (kp xs (j + 1)), .int .i64 (dp xs (j + 1)), .string xini, .slice xea xen xec, .slice xxa xxn xxc] 50) (HP1.out j rfl);have hb1 : -1 <= dp xs j /\ dp xs j <= 5 := HAH.out;have e9 : IntKind.i64.wrap (dp xs j + 1) = dp xs j + 1 := IntWalk.i64_in _ (by omega);clear hok HP1 HAH;go_wp2
     go_quiet (fail)
     go_wp2;go_ret;exact ⟨ret_bool HF.out.symm, HX.out _⟩
    ·subst hj;exfalso;have h : ¬ (0 <= dp xs 0 /\ dp xs 0 < 6 /\ dp xs 0 <= -1 + 1) := hok;have := HZ0.out;omega
   obtain ⟨o1, o2, o3⟩ := hok;by_cases hkd : 1 <= kp xs k /\ kp xs k <= 6;rotate_left
   ·have hf : decide (RightP (dp xs) (kp xs) n) = false := decide_eq_false fun h => hkd (h.fine k hkn).kind
    have HF := Lib.hid hf;clear hf HK HP1 HAH o3;by_cases hk1 : kp xs k < 1
    ·clear hkd;go_wp2
     go_quiet (fail)
     go_wp2;go_ret;exact ⟨ret_bool HF.out.symm, HX.out _⟩
    ·have hk6 : 6 < kp xs k := by omega
     have e1 : decide (kp xs k < 1) = false := decide_eq_false hk1;clear hkd;go_wp2
     go_quiet (fail)
     go_wp2;go_ret;exact ⟨ret_bool HF.out.symm, HX.out _⟩
   obtain ⟨k1, k6⟩ := hkd;have e1 : decide (kp xs k < 1) = false := decide_eq_false (by omega);have e2 : decide (6 < kp xs k) = false := decide_eq_false (by omega);have e3 : decide (dp xs k < 0) = false := decide_eq_false (by omega);have e4 : decide (5 < dp xs k) = false := decide_eq_false (by omega);by_cases hreg : dp xs k = 0 -> kp xs k = 2;rotate_left
   ·have hf : decide (RightP (dp xs) (kp xs) n) = false := decide_eq_false fun h => hreg (h.fine k hkn).region
    have HF := Lib.hid hf;have hz : dp xs k = 0 := Classical.byContradiction fun h => hreg (fun e => absurd e h)
    have hk2 : (kp xs k != 2) = true := bne_iff_ne.2 (fun e => hreg (fun _ => e));clear hf HK hreg;have hkp : ∃ j, k = j + 1 \/ k = 0 := by cases k with | zero => exact ⟨0, Or.inr rfl⟩ | succ j => exact ⟨j, Or.inl rfl⟩
    obtain ⟨j, hj | hj⟩ := hkp
    ·subst hj;have e5 : decide (0 < ((j + 1 : Nat) : Int)) = true := decide_eq_true (by omega);have e7 : IntKind.i64.wrap ((j : Int) + 1 - 1) = j := by rw [Int.add_sub_cancel]; exact IntWalk.i64_in _ (by omega)
     have e8 : IntKind.i64.wrap (j : Int) = j := IntWalk.i64_in _ (by omega);have hjn : j < n := by omega
     have hgt : decide (dp xs j + 1 < dp xs (j + 1)) = false := decide_eq_false (by
      have h : dp xs (j + 1) <= dp xs j + 1 := o3;omega)
     rw [hz] at hgt c2 e3 e4 HX;have cj := old_cell (o := .cells #[.string xnm, .int .i64 (kp xs (j + 1)), .int .i64 0, .string xini, .slice xea xen xec, .slice xxa xxn xxc] 50) (HP1.out j rfl);have hb1 : -1 <= dp xs j /\ dp xs j <= 5 := HAH.out;have e9 : IntKind.i64.wrap (dp xs j + 1) = dp xs j + 1 := IntWalk.i64_in _ (by omega);clear HP1 HAH o3 hz;go_wp2
     go_quiet (fail)
     go_wp2;go_ret;exact ⟨ret_bool HF.out.symm, HX.out _⟩
    ·subst hj;rw [hz] at c2 e3 e4 HX;simp only [Nat.zero_mul, Nat.add_zero] at c0 c1 c2 c3 c4 c5;clear HP1 HAH o3 hz;go_wp2
     go_quiet (fail)
     go_wp2;go_ret;exact ⟨ret_bool HF.out.symm, HX.out _⟩
   have HS : Hid (∀ m, m < k + 1 -> Ok1 (dp xs) (kp xs) m) := fun m hm => by
    by_cases e : m = k
    ·subst e; exact ⟨⟨k1, k6⟩, ⟨o1, o2, o3⟩, hreg⟩
    ·exact HK.out m (by omega)
   have HRG : Hid ((regs (dp xs) (k + 1) : Int) = if dp xs k = 0 then (regs (dp xs) k : Int) + 1 else regs (dp xs) k) := Lib.hid (by rw [regs_succ]; split <;> omega);clear HK;have hkp : ∃ j, k = j + 1 \/ k = 0 := by cases k with | zero => exact ⟨0, Or.inr rfl⟩ | succ j => exact ⟨j, Or.inl rfl⟩
   obtain ⟨j, hj | hj⟩ := hkp
   ·subst hj;have e5 : decide (0 < ((j + 1 : Nat) : Int)) = true := decide_eq_true (by omega);have e7 : IntKind.i64.wrap ((j : Int) + 1 - 1) = j := by rw [Int.add_sub_cancel]; exact IntWalk.i64_in _ (by omega)
    have e8 : IntKind.i64.wrap (j : Int) = j := IntWalk.i64_in _ (by omega);have hjn : j < n := by omega
    have hgt : decide (dp xs j + 1 < dp xs (j + 1)) = false := decide_eq_false (by
     have h : dp xs (j + 1) <= dp xs j + 1 := o3;omega)
    have hb1 : -1 <= dp xs j /\ dp xs j <= 5 := HAH.out;have e9 : IntKind.i64.wrap (dp xs j + 1) = dp xs j + 1 := IntWalk.i64_in _ (by omega);have HCJ := Lib.hid (HP1.out j rfl);clear HP1 HAH o3;by_cases hz : dp xs (j + 1) = 0
    ·have hk2 := hreg hz;rw [if_pos hz] at HRG;rw [hz] at hgt c2 e3 e4 HX;rw [hk2] at c1 e1 e2 HX;have cj := old_cell (o := .cells #[.string xnm, .int .i64 2, .int .i64 0, .string xini, .slice xea xen xec, .slice xxa xxn xxc] 50) HCJ.out;clear hreg hz hk2 HCJ;go_wp2
     go_quiet (fail)
     go_wp2
     go_roundw
     case rel => exact ⟨j + 1 + 1, by omega, by go_num, by rw [HRG.out], HS.out, HX.out _⟩
     case measure => simp [intOf] <;> omega
    ·have hne := int_ne hz;rw [if_neg hz] at HRG;have cj := old_cell (o := .cells #[.string xnm, .int .i64 (kp xs (j + 1)), .int .i64 (dp xs (j + 1)), .string xini, .slice xea xen xec, .slice xxa xxn xxc] 50) HCJ.out;clear hreg hz HCJ;go_wp2
     go_quiet (fail)
     go_wp2
     go_roundw
     case rel => exact ⟨j + 1 + 1, by omega, by go_num, by rw [HRG.out], HS.out, HX.out _⟩
     case measure => simp [intOf] <;> omega
   ·subst hj;have hz := HZ0.out;have hk2 := hreg hz;rw [if_pos hz] at HRG;rw [hz] at c2 e3 e4 HX;rw [hk2] at c1 e1 e2 HX;simp only [Nat.zero_mul, Nat.add_zero] at c0 c1 c2 c3 c4 c5;clear hreg hz hk2 HP1 HAH o3;go_wp2
    go_quiet (fail)
    go_wp2
    go_roundw
    case rel => exact ⟨0 + 1, by omega, by go_num, by rw [HRG.out], HS.out, HX.out _⟩
    case measure => simp [intOf] <;> omega
  ·obtain rfl : n = k := by omega
   have hns : Nst (dp xs) n := nst_ok.2 fun i hi => (HK.out i hi).2.1
   have HNS := Lib.hid hns;have HBW := Lib.hid hbw;clear hns hbw hrl;go_wp2
   go_loopw [6] (fun x6 wr => ∃ m : Nat, m <= n /\ x6 = .int .i64 m /\ Hid (∀ q, q < m -> Ok2 (dp xs) (kp xs) n q) /\ Below w.heap.size w wr) (fun x _ => n - (intOf x).toNat)
   case atStart => exact ⟨0, by omega, rfl, fun m hm => by omega, HBW.out⟩
   case round =>
    clear HBW;obtain ⟨m, hm, rfl, HM, hbw⟩ := hrel;obtain ⟨wm, hwm⟩ : ∃ W, W = wr := ⟨_, rfl⟩
    subst hwm;have hrl := regs_le (dp xs) n;by_cases hmn : m < n;rotate_left
    ·obtain rfl : n = m := by omega
     have hf : decide (RightP (dp xs) (kp xs) n) = decide ((regs (dp xs) n : Int) <= 4) := by
      by_cases h4 : regs (dp xs) n <= 4
      ·rw [decide_eq_true (HRI.out.2 ⟨by omega, by omega, HK.out, HM.out, h4⟩), decide_eq_true (by omega)]
      ·rw [decide_eq_false (fun h => h4 h.regs), decide_eq_false (by omega)]
     have HF := Lib.hid hf;have HBW := Lib.hid hbw;clear hf HK HM hbw;go_wp2;go_ret;exact ⟨ret_bool HF.out.symm, HBW.out⟩
    have HCP := Lib.hid (HRP.out m wm hmn (HR.out.below hbw) HNS.out);have hcell : ∀ p u, w.cell? ⟨b, p, none⟩ = some u -> wm.cell? ⟨b, p, none⟩ = some u := fun p u h => (hbw.cell HB.out).trans h
    have cm := hcell _ _ (HC.out m (by rw [HNN.out]; exact hmn)).2.1;have HCE : Hid (∀ p, p < n -> wm.cell? ⟨b, o + p * 6 + 1, none⟩ = some (.int .i64 (kp xs p))) := fun p hp => hcell _ _ (HC.out p (by rw [HNN.out]; exact hp)).2.1
    have HBQ : Hid (∀ q, Below w.heap.size w (wm.drewN q)) := fun q => below_drewN hbw q
    have HR1 := Lib.hid (HR.out.below hbw);have hnear := HNS.out.nearest hmn;have hfine := HK.out m hmn;have HRKm := Lib.hid (fun W (h : RdT W _ xs) => HRK.out m W hmn h (by omega) HNS.out);clear hcell hbw;rcases hnear with ⟨hpar, hd0⟩ | ⟨p, hpar, hpm, _, _⟩
    ·have hm2 := hfine.2.2 hd0;rw [hm2] at cm;have HM2 := Lib.hid hm2;have HPR := Lib.hid hpar;clear hm2 hpar hd0 hfine
     go_wp2_with (fail)
     refine HCP.out.mono ?_;rintro e w1 ⟨rfl, q, rfl⟩;rw [HPR.out]
     go_wp2_with (fail)
     refine (HRKm.out _ (HR1.out.drew q)).mono ?_;rintro e w2 ⟨⟨u, rfl, hown⟩, hb2⟩;obtain ⟨A9, c9, e9⟩ := own_slice hown;subst e9;have HB2 : Hid (Below w.heap.size w w2) := (HBQ.out q).trans (hb2.mono (HBQ.out q).size);have HIN : Hid (RdN w2 (.slice A9 (kids (dp xs) n m).length c9) (kids (dp xs) n m)) := Inn.of_own hown;have HC2 : Hid (∀ p, p < n -> w2.cell? ⟨b, o + p * 6 + 1, none⟩ = some (.int .i64 (kp xs p))) := fun p hp => (hb2.cell (cell_lt (HCE.out p hp))).trans (HCE.out p hp)
     have hll := kids_len (dp xs) n m;have HLT : Hid (∀ y ∈ kids (dp xs) n m, y < n) := fun y hy => (mem_kids.1 hy).1
     have HAK := Lib.hid (anyK_iff (kd := kp xs) (l := kids (dp xs) n m));clear hown hb2;obtain ⟨L, hL⟩ : ∃ L, L = kids (dp xs) n m := ⟨_, rfl⟩
     have HKL := Lib.hid hL;rw [<- hL] at HIN hll HLT HAK ⊢;clear hL;go_wp2
     go_loopw [8, 10] (fun x8 x10 wr => wr = w2 /\ ∃ j : Nat, j <= L.length /\ x10 = .int .i64 j /\ x8 = .bool (anyK (kp xs) (L.take j))) (fun _ x _ => L.length - (intOf x).toNat)
     case atStart => exact ⟨rfl, 0, by omega, rfl, rfl⟩
     case round =>
      obtain ⟨rfl, j, hj, rfl, rfl⟩ := hrel;by_cases hjl : j < L.length
      ·have hst := anyK_take (kd := kp xs) hjl;cases ha : anyK (kp xs) (L.take j)
       ·rw [ha, Bool.false_or] at hst;obtain ⟨b9, o9, rfl, cy⟩ := HIN.out.at_ hjl;have hy := HLT.out _ (List.getElem_mem hjl);generalize L[j] = y at *
        have cy2 := HC2.out y hy;have HST := Lib.hid hst;clear hst
        go_wp2_with (fail)
        refine (HPA.out _ _).mono ?_;rintro e w3 ⟨rfl, rfl⟩;go_wp2
        go_roundw
        case rel => exact ⟨trivial, j + 1, by omega, by go_num, by rw [HST.out]⟩
        case measure => simp [intOf] <;> omega
       ·rw [ha, Bool.true_or] at hst;have HST := Lib.hid hst;clear hst;go_wp2
        go_roundw
        case rel => exact ⟨trivial, j + 1, by omega, by go_num, by rw [HST.out]⟩
        case measure => simp [intOf] <;> omega
      ·obtain rfl : L.length = j := by omega
       rw [List.take_length];cases ha : anyK (kp xs) L
       ·have hf : decide (RightP (dp xs) (kp xs) n) = false := decide_eq_false fun h => by
         have h2 := HAK.out.2 (by rw [HKL.out]; exact ((HRI.out.1 h).2.2.2.1 m hmn).2 (Or.inl HM2.out));rw [ha] at h2; cases h2
        have HF := Lib.hid hf;clear hf HM HK;go_wp2;go_ret;exact ⟨ret_bool HF.out.symm, HB2.out⟩
       ·have HS : Hid (∀ q, q < m + 1 -> Ok2 (dp xs) (kp xs) n q) := fun q hq => by
         by_cases e : q = m
         ·subst e; exact ⟨(fun p hp e => by have h := HPR.out; rw [h] at e; omega), fun _ => HKL.out ▸ HAK.out.1 ha⟩
         ·exact HM.out q (by omega)
        clear HM;go_wp2
        go_roundw
        case rel => exact ⟨m + 1, by omega, by go_num, HS.out, HB2.out⟩
        case measure => simp [intOf] <;> omega
    have HPR := Lib.hid hpar;have cp := HCE.out p (by omega);clear hpar hfine;by_cases hp2 : kp xs p = 2
    ·rw [hp2] at cp;have HP2 := Lib.hid hp2;clear hp2
     go_wp2_with (fail)
     refine HCP.out.mono ?_;rintro e w1 ⟨rfl, q, rfl⟩;rw [HPR.out];by_cases hm2 : kp xs m = 2
     ·rw [hm2] at cm;have HM2 := Lib.hid hm2;clear hm2
      go_wp2_with (fail)
      refine (HRKm.out _ (HR1.out.drew q)).mono ?_;rintro e w2 ⟨⟨u, rfl, hown⟩, hb2⟩;obtain ⟨A9, c9, e9⟩ := own_slice hown;subst e9;have HB2 : Hid (Below w.heap.size w w2) := (HBQ.out q).trans (hb2.mono (HBQ.out q).size);have HIN : Hid (RdN w2 (.slice A9 (kids (dp xs) n m).length c9) (kids (dp xs) n m)) := Inn.of_own hown;have HC2 : Hid (∀ p, p < n -> w2.cell? ⟨b, o + p * 6 + 1, none⟩ = some (.int .i64 (kp xs p))) := fun p hp => (hb2.cell (cell_lt (HCE.out p hp))).trans (HCE.out p hp)
      have hll := kids_len (dp xs) n m;have HLT : Hid (∀ y ∈ kids (dp xs) n m, y < n) := fun y hy => (mem_kids.1 hy).1
      have HAK := Lib.hid (anyK_iff (kd := kp xs) (l := kids (dp xs) n m));clear hown hb2;obtain ⟨L, hL⟩ : ∃ L, L = kids (dp xs) n m := ⟨_, rfl⟩
      have HKL := Lib.hid hL;rw [<- hL] at HIN hll HLT HAK ⊢;clear hL;go_wp2
      go_loopw [8, 10] (fun x8 x10 wr => wr = w2 /\ ∃ j : Nat, j <= L.length /\ x10 = .int .i64 j /\ x8 = .bool (anyK (kp xs) (L.take j))) (fun _ x _ => L.length - (intOf x).toNat)
      case atStart => exact ⟨rfl, 0, by omega, rfl, rfl⟩
      case round =>
       obtain ⟨rfl, j, hj, rfl, rfl⟩ := hrel;by_cases hjl : j < L.length
       ·have hst := anyK_take (kd := kp xs) hjl;cases ha : anyK (kp xs) (L.take j)
        ·rw [ha, Bool.false_or] at hst;obtain ⟨b9, o9, rfl, cy⟩ := HIN.out.at_ hjl;have hy := HLT.out _ (List.getElem_mem hjl);generalize L[j] = y at *
         have cy2 := HC2.out y hy;have HST := Lib.hid hst;clear hst
         go_wp2_with (fail)
         refine (HPA.out _ _).mono ?_;rintro e w3 ⟨rfl, rfl⟩;go_wp2
         go_roundw
         case rel => exact ⟨trivial, j + 1, by omega, by go_num, by rw [HST.out]⟩
         case measure => simp [intOf] <;> omega
        ·rw [ha, Bool.true_or] at hst;have HST := Lib.hid hst;clear hst;go_wp2
         go_roundw
         case rel => exact ⟨trivial, j + 1, by omega, by go_num, by rw [HST.out]⟩
         case measure => simp [intOf] <;> omega
       ·obtain rfl : L.length = j := by omega
        rw [List.take_length];cases ha : anyK (kp xs) L
        ·have hf : decide (RightP (dp xs) (kp xs) n) = false := decide_eq_false fun h => by
          have h2 := HAK.out.2 (by rw [HKL.out]; exact ((HRI.out.1 h).2.2.2.1 m hmn).2 (Or.inl HM2.out));rw [ha] at h2; cases h2
         have HF := Lib.hid hf;clear hf HM HK;go_wp2;go_ret;exact ⟨ret_bool HF.out.symm, HB2.out⟩
        ·have HS : Hid (∀ q, q < m + 1 -> Ok2 (dp xs) (kp xs) n q) := fun q hq => by
          by_cases e : q = m
          ·subst e; exact ⟨(fun p2 hp e => by have h := HPR.out; rw [h] at e; obtain rfl : p = p2 := (by omega); exact Or.inl HP2.out), fun _ => HKL.out ▸ HAK.out.1 ha⟩
          ·exact HM.out q (by omega)
         clear HM;go_wp2
         go_roundw
         case rel => exact ⟨m + 1, by omega, by go_num, HS.out, HB2.out⟩
         case measure => simp [intOf] <;> omega
     by_cases hm3 : kp xs m = 3
     ·rw [hm3] at cm;have HM3 := Lib.hid hm3;clear hm3
      go_wp2_with (fail)
      refine (HRKm.out _ (HR1.out.drew q)).mono ?_;rintro e w2 ⟨⟨u, rfl, hown⟩, hb2⟩;obtain ⟨A9, c9, e9⟩ := own_slice hown;subst e9;have HB2 : Hid (Below w.heap.size w w2) := (HBQ.out q).trans (hb2.mono (HBQ.out q).size);have HIN : Hid (RdN w2 (.slice A9 (kids (dp xs) n m).length c9) (kids (dp xs) n m)) := Inn.of_own hown;have HC2 : Hid (∀ p, p < n -> w2.cell? ⟨b, o + p * 6 + 1, none⟩ = some (.int .i64 (kp xs p))) := fun p hp => (hb2.cell (cell_lt (HCE.out p hp))).trans (HCE.out p hp)
      have hll := kids_len (dp xs) n m;have HLT : Hid (∀ y ∈ kids (dp xs) n m, y < n) := fun y hy => (mem_kids.1 hy).1
      have HAK := Lib.hid (anyK_iff (kd := kp xs) (l := kids (dp xs) n m));clear hown hb2;obtain ⟨L, hL⟩ : ∃ L, L = kids (dp xs) n m := ⟨_, rfl⟩
      have HKL := Lib.hid hL;rw [<- hL] at HIN hll HLT HAK ⊢;clear hL;go_wp2
      go_loopw [8, 10] (fun x8 x10 wr => wr = w2 /\ ∃ j : Nat, j <= L.length /\ x10 = .int .i64 j /\ x8 = .bool (anyK (kp xs) (L.take j))) (fun _ x _ => L.length - (intOf x).toNat)
      case atStart => exact ⟨rfl, 0, by omega, rfl, rfl⟩
      case round =>
       obtain ⟨rfl, j, hj, rfl, rfl⟩ := hrel;by_cases hjl : j < L.length
       ·have hst := anyK_take (kd := kp xs) hjl;cases ha : anyK (kp xs) (L.take j)
        ·rw [ha, Bool.false_or] at hst;obtain ⟨b9, o9, rfl, cy⟩ := HIN.out.at_ hjl;have hy := HLT.out _ (List.getElem_mem hjl);generalize L[j] = y at *
         have cy2 := HC2.out y hy;have HST := Lib.hid hst;clear hst
         go_wp2_with (fail)
         refine (HPA.out _ _).mono ?_;rintro e w3 ⟨rfl, rfl⟩;go_wp2
         go_roundw
         case rel => exact ⟨trivial, j + 1, by omega, by go_num, by rw [HST.out]⟩
         case measure => simp [intOf] <;> omega
        ·rw [ha, Bool.true_or] at hst;have HST := Lib.hid hst;clear hst;go_wp2
         go_roundw
         case rel => exact ⟨trivial, j + 1, by omega, by go_num, by rw [HST.out]⟩
         case measure => simp [intOf] <;> omega
       ·obtain rfl : L.length = j := by omega
        rw [List.take_length];cases ha : anyK (kp xs) L
        ·have hf : decide (RightP (dp xs) (kp xs) n) = false := decide_eq_false fun h => by
          have h2 := HAK.out.2 (by rw [HKL.out]; exact ((HRI.out.1 h).2.2.2.1 m hmn).2 (Or.inr HM3.out));rw [ha] at h2; cases h2
         have HF := Lib.hid hf;clear hf HM HK;go_wp2;go_ret;exact ⟨ret_bool HF.out.symm, HB2.out⟩
        ·have HS : Hid (∀ q, q < m + 1 -> Ok2 (dp xs) (kp xs) n q) := fun q hq => by
          by_cases e : q = m
          ·subst e; exact ⟨(fun p2 hp e => by have h := HPR.out; rw [h] at e; obtain rfl : p = p2 := (by omega); exact Or.inl HP2.out), fun _ => HKL.out ▸ HAK.out.1 ha⟩
          ·exact HM.out q (by omega)
         clear HM;go_wp2
         go_roundw
         case rel => exact ⟨m + 1, by omega, by go_num, HS.out, HB2.out⟩
         case measure => simp [intOf] <;> omega
     have HNP : Hid (¬ parentP (kp xs m)) := fun h => h.elim hm2 hm3
     have b2 : (kp xs m != 2) = true := bne_iff_ne.2 hm2;have b3 : (kp xs m != 3) = true := bne_iff_ne.2 hm3;have HS : Hid (∀ q, q < m + 1 -> Ok2 (dp xs) (kp xs) n q) := fun q hq => by
      by_cases e : q = m
      ·subst e; exact ⟨(fun p2 hp e => by have h := HPR.out; rw [h] at e; obtain rfl : p = p2 := (by omega); exact Or.inl HP2.out), fun hp => absurd hp HNP.out⟩
      ·exact HM.out q (by omega)
     clear HM;go_wp2
     go_roundw
     case rel => exact ⟨m + 1, by omega, by go_num, HS.out, HBQ.out _⟩
     case measure => simp [intOf] <;> omega
    have bp2 : (kp xs p != 2) = true := bne_iff_ne.2 hp2;by_cases hp3 : kp xs p = 3;rotate_left
    ·have bp3 : (kp xs p != 3) = true := bne_iff_ne.2 hp3;have hf : decide (RightP (dp xs) (kp xs) n) = false := decide_eq_false fun h => by
      rcases ((HRI.out.1 h).2.2.2.1 m hmn).1 p (by omega) HPR.out with e | ⟨e, _⟩
      ·exact hp2 e
      ·exact hp3 e
     go_wp2_with (fail)
     refine HCP.out.mono ?_;rintro e w1 ⟨rfl, q, rfl⟩;rw [HPR.out];have HF := Lib.hid hf;clear hf HM HK;go_wp2;go_ret;exact ⟨ret_bool HF.out.symm, HBQ.out _⟩
    by_cases hm4 : kp xs m <= 3;rotate_left
    ·have hm4' : 3 < kp xs m := by omega
     have hf : decide (RightP (dp xs) (kp xs) n) = false := decide_eq_false fun h => by
      rcases ((HRI.out.1 h).2.2.2.1 m hmn).1 p (by omega) HPR.out with e | ⟨_, e⟩
      ·exact hp2 e
      ·exact hm4 e
     rw [hp3] at cp
     go_wp2_with (fail)
     refine HCP.out.mono ?_;rintro e w1 ⟨rfl, q, rfl⟩;rw [HPR.out];have HF := Lib.hid hf;clear hf HM HK;go_wp2;go_ret;exact ⟨ret_bool HF.out.symm, HBQ.out _⟩
    rw [hp3] at cp;have HP3 := Lib.hid hp3; have HM4 := Lib.hid hm4;clear bp2 hp2 hp3
    go_wp2_with (fail)
    refine HCP.out.mono ?_;rintro e w1 ⟨rfl, q, rfl⟩;rw [HPR.out];by_cases hm2 : kp xs m = 2
    ·rw [hm2] at cm;have HM2 := Lib.hid hm2;clear hm2
     go_wp2_with (fail)
     refine (HRKm.out _ (HR1.out.drew q)).mono ?_;rintro e w2 ⟨⟨u, rfl, hown⟩, hb2⟩;obtain ⟨A9, c9, e9⟩ := own_slice hown;subst e9;have HB2 : Hid (Below w.heap.size w w2) := (HBQ.out q).trans (hb2.mono (HBQ.out q).size);have HIN : Hid (RdN w2 (.slice A9 (kids (dp xs) n m).length c9) (kids (dp xs) n m)) := Inn.of_own hown;have HC2 : Hid (∀ p, p < n -> w2.cell? ⟨b, o + p * 6 + 1, none⟩ = some (.int .i64 (kp xs p))) := fun p hp => (hb2.cell (cell_lt (HCE.out p hp))).trans (HCE.out p hp)
     have hll := kids_len (dp xs) n m;have HLT : Hid (∀ y ∈ kids (dp xs) n m, y < n) := fun y hy => (mem_kids.1 hy).1
     have HAK := Lib.hid (anyK_iff (kd := kp xs) (l := kids (dp xs) n m));clear hown hb2;obtain ⟨L, hL⟩ : ∃ L, L = kids (dp xs) n m := ⟨_, rfl⟩
     have HKL := Lib.hid hL;rw [<- hL] at HIN hll HLT HAK ⊢;clear hL;go_wp2
     go_loopw [8, 10] (fun x8 x10 wr => wr = w2 /\ ∃ j : Nat, j <= L.length /\ x10 = .int .i64 j /\ x8 = .bool (anyK (kp xs) (L.take j))) (fun _ x _ => L.length - (intOf x).toNat)
     case atStart => exact ⟨rfl, 0, by omega, rfl, rfl⟩
     case round =>
      obtain ⟨rfl, j, hj, rfl, rfl⟩ := hrel;by_cases hjl : j < L.length
      ·have hst := anyK_take (kd := kp xs) hjl;cases ha : anyK (kp xs) (L.take j)
       ·rw [ha, Bool.false_or] at hst;obtain ⟨b9, o9, rfl, cy⟩ := HIN.out.at_ hjl;have hy := HLT.out _ (List.getElem_mem hjl);generalize L[j] = y at *
        have cy2 := HC2.out y hy;have HST := Lib.hid hst;clear hst
        go_wp2_with (fail)
        refine (HPA.out _ _).mono ?_;rintro e w3 ⟨rfl, rfl⟩;go_wp2
        go_roundw
        case rel => exact ⟨trivial, j + 1, by omega, by go_num, by rw [HST.out]⟩
        case measure => simp [intOf] <;> omega
       ·rw [ha, Bool.true_or] at hst;have HST := Lib.hid hst;clear hst;go_wp2
        go_roundw
        case rel => exact ⟨trivial, j + 1, by omega, by go_num, by rw [HST.out]⟩
        case measure => simp [intOf] <;> omega
      ·obtain rfl : L.length = j := by omega
       rw [List.take_length];cases ha : anyK (kp xs) L
       ·have hf : decide (RightP (dp xs) (kp xs) n) = false := decide_eq_false fun h => by
         have h2 := HAK.out.2 (by rw [HKL.out]; exact ((HRI.out.1 h).2.2.2.1 m hmn).2 (Or.inl HM2.out));rw [ha] at h2; cases h2
        have HF := Lib.hid hf;clear hf HM HK;go_wp2;go_ret;exact ⟨ret_bool HF.out.symm, HB2.out⟩
       ·have HS : Hid (∀ q, q < m + 1 -> Ok2 (dp xs) (kp xs) n q) := fun q hq => by
         by_cases e : q = m
         ·subst e; exact ⟨(fun p2 hp e => by have h := HPR.out; rw [h] at e; obtain rfl : p = p2 := (by omega); exact Or.inr ⟨HP3.out, HM4.out⟩), fun _ => HKL.out ▸ HAK.out.1 ha⟩
         ·exact HM.out q (by omega)
        clear HM;go_wp2
        go_roundw
        case rel => exact ⟨m + 1, by omega, by go_num, HS.out, HB2.out⟩
        case measure => simp [intOf] <;> omega
    by_cases hm3 : kp xs m = 3
    ·rw [hm3] at cm;have HM3 := Lib.hid hm3;clear hm3
     go_wp2_with (fail)
     refine (HRKm.out _ (HR1.out.drew q)).mono ?_;rintro e w2 ⟨⟨u, rfl, hown⟩, hb2⟩;obtain ⟨A9, c9, e9⟩ := own_slice hown;subst e9;have HB2 : Hid (Below w.heap.size w w2) := (HBQ.out q).trans (hb2.mono (HBQ.out q).size);have HIN : Hid (RdN w2 (.slice A9 (kids (dp xs) n m).length c9) (kids (dp xs) n m)) := Inn.of_own hown;have HC2 : Hid (∀ p, p < n -> w2.cell? ⟨b, o + p * 6 + 1, none⟩ = some (.int .i64 (kp xs p))) := fun p hp => (hb2.cell (cell_lt (HCE.out p hp))).trans (HCE.out p hp)
     have hll := kids_len (dp xs) n m;have HLT : Hid (∀ y ∈ kids (dp xs) n m, y < n) := fun y hy => (mem_kids.1 hy).1
     have HAK := Lib.hid (anyK_iff (kd := kp xs) (l := kids (dp xs) n m));clear hown hb2;obtain ⟨L, hL⟩ : ∃ L, L = kids (dp xs) n m := ⟨_, rfl⟩
     have HKL := Lib.hid hL;rw [<- hL] at HIN hll HLT HAK ⊢;clear hL;go_wp2
     go_loopw [8, 10] (fun x8 x10 wr => wr = w2 /\ ∃ j : Nat, j <= L.length /\ x10 = .int .i64 j /\ x8 = .bool (anyK (kp xs) (L.take j))) (fun _ x _ => L.length - (intOf x).toNat)
     case atStart => exact ⟨rfl, 0, by omega, rfl, rfl⟩
     case round =>
      obtain ⟨rfl, j, hj, rfl, rfl⟩ := hrel;by_cases hjl : j < L.length
      ·have hst := anyK_take (kd := kp xs) hjl;cases ha : anyK (kp xs) (L.take j)
       ·rw [ha, Bool.false_or] at hst;obtain ⟨b9, o9, rfl, cy⟩ := HIN.out.at_ hjl;have hy := HLT.out _ (List.getElem_mem hjl);generalize L[j] = y at *
        have cy2 := HC2.out y hy;have HST := Lib.hid hst;clear hst
        go_wp2_with (fail)
        refine (HPA.out _ _).mono ?_;rintro e w3 ⟨rfl, rfl⟩;go_wp2
        go_roundw
        case rel => exact ⟨trivial, j + 1, by omega, by go_num, by rw [HST.out]⟩
        case measure => simp [intOf] <;> omega
       ·rw [ha, Bool.true_or] at hst;have HST := Lib.hid hst;clear hst;go_wp2
        go_roundw
        case rel => exact ⟨trivial, j + 1, by omega, by go_num, by rw [HST.out]⟩
        case measure => simp [intOf] <;> omega
      ·obtain rfl : L.length = j := by omega
       rw [List.take_length];cases ha : anyK (kp xs) L
       ·have hf : decide (RightP (dp xs) (kp xs) n) = false := decide_eq_false fun h => by
         have h2 := HAK.out.2 (by rw [HKL.out]; exact ((HRI.out.1 h).2.2.2.1 m hmn).2 (Or.inr HM3.out));rw [ha] at h2; cases h2
        have HF := Lib.hid hf;clear hf HM HK;go_wp2;go_ret;exact ⟨ret_bool HF.out.symm, HB2.out⟩
       ·have HS : Hid (∀ q, q < m + 1 -> Ok2 (dp xs) (kp xs) n q) := fun q hq => by
         by_cases e : q = m
         ·subst e; exact ⟨(fun p2 hp e => by have h := HPR.out; rw [h] at e; obtain rfl : p = p2 := (by omega); exact Or.inr ⟨HP3.out, HM4.out⟩), fun _ => HKL.out ▸ HAK.out.1 ha⟩
         ·exact HM.out q (by omega)
        clear HM;go_wp2
        go_roundw
        case rel => exact ⟨m + 1, by omega, by go_num, HS.out, HB2.out⟩
        case measure => simp [intOf] <;> omega
    have HNP : Hid (¬ parentP (kp xs m)) := fun h => h.elim hm2 hm3
    have b2 : (kp xs m != 2) = true := bne_iff_ne.2 hm2;have b3 : (kp xs m != 3) = true := bne_iff_ne.2 hm3;have HS : Hid (∀ q, q < m + 1 -> Ok2 (dp xs) (kp xs) n q) := fun q hq => by
     by_cases e : q = m
     ·subst e; exact ⟨(fun p2 hp e => by have h := HPR.out; rw [h] at e; obtain rfl : p = p2 := (by omega); exact Or.inr ⟨HP3.out, HM4.out⟩), fun hp => absurd hp HNP.out⟩
     ·exact HM.out q (by omega)
    clear HM;go_wp2
    go_roundw
    case rel => exact ⟨m + 1, by omega, by go_num, HS.out, HBQ.out _⟩
    case measure => simp [intOf] <;> omega
end Go.Proofs.YtcnfcililiehlaaGreatDoor.Tr
namespace Go.Proofs.YtcnfcililiehlaaGreatDoor.Tr
open Go.RowKit
set_option maxHeartbeats 1000000 in
theorem refDomain_any (v : Value) (xs : List SM) (i j : Nat) (w : World) (hR : RdT w v xs) (hi : i < xs.length) (hj : j < xs.length) (hP : RightP (dp xs) (kp xs) xs.length) :
 Calls Tryz.prog 99 #[v, .int .i64 i, .int .i64 j] w fun e w' => e = .returned (.int .i64 (dom (dp xs) (kp xs) i j)) /\ ∃ n, w' = w.drewN n := by
 obtain ⟨A, c, rfl⟩ := hR.form;have hl := hP.le;have HP := Lib.hid (fun k W (hk : k < xs.length) (h : RdT W _ xs) => refParent_any (.slice A xs.length c) xs k W h hk (by omega) hP.nst);have HW := Lib.hid (fun k W (h : RdT W _ xs) => refWithin_any (.slice A xs.length c) xs k j W h hj (by omega) hP.nst);have HN := Lib.hid hP.nst;have HR := Lib.hid hR;obtain ⟨b, o, rfl, hb0, hcc⟩ := hR.base (by omega);obtain ⟨n, hn⟩ : ∃ n, xs.length = n := ⟨_, rfl⟩
 have HCL : Hid (∀ m, m < n -> w.cell? ⟨b, o + m * 6 + 1, none⟩ = some (.int .i64 (kp xs m))) := fun m hm => (hcc m (by omega)).2.1
 rw [hn] at hi hj hl HP HN HW HR;rw [hn];clear hR hP hn hcc hb0
 go_enter Tryz.func99, Tryz.ntmps99
 go_wp2
 go_loopw [7] (fun x7 wr => ∃ q : Nat, wr = w.drewN q /\ ((x7 = .int .i64 (-1) /\ Hid (dom (dp xs) (kp xs) i j = -1)) \/ ∃ k : Nat, k < n /\ x7 = .int .i64 k /\ Hid (dom (dp xs) (kp xs) k j = dom (dp xs) (kp xs) i j))) (fun x _ => (intOf x + 1).toNat)
 case atStart => exact ⟨0, rfl, Or.inr ⟨i, hi, rfl, rfl⟩⟩
 case round =>
  obtain ⟨q, rfl, ⟨hx, HF⟩ | ⟨k, hk, hx, HK⟩⟩ := hrel
  ·subst hx;go_wp2;go_ret;exact ⟨ret_int HF.out.symm, q, rfl⟩
  ·subst hx;have ck := HCL.out k hk;have hnx : one (dp xs) (kp xs) j k = false -> (par (dp xs) k = -1 /\ dom (dp xs) (kp xs) i j = -1) \/ ∃ p : Nat, par (dp xs) k = p /\ p < k /\ dom (dp xs) (kp xs) p j = dom (dp xs) (kp xs) i j := by
    intro ho;rcases HN.out.nearest hk with ⟨h, _⟩ | ⟨p, h, h1, _⟩
    ·exact Or.inl ⟨h, by rw [<- HK.out]; exact HN.out.dom_none hk ho h⟩
    ·exact Or.inr ⟨p, h, h1, by rw [<- HK.out]; exact (HN.out.dom_par hk ho h).symm⟩
   by_cases h2 : kp xs k = 2
   ·by_cases hw : wi (dp xs) k j
    ·have hh : dom (dp xs) (kp xs) k j = k := dom_here (decide_eq_true ⟨h2, hw⟩);have HH := Lib.hid (hh.symm.trans HK.out);have HWD := Lib.hid (decide_eq_true hw);rw [h2] at ck;clear hh hnx h2 hw
     go_wp2_with (fail)
     refine (HW.out k _ (HR.out.drew q)).mono ?_;rintro e w2 ⟨rfl, q2, rfl⟩;rw [HWD.out];go_wp2;go_ret;exact ⟨ret_int HH.out, q + q2, rfl⟩
    ·have HNX := Lib.hid (hnx (decide_eq_false (fun h => hw h.2)));have HWD := Lib.hid (decide_eq_false hw);rw [h2] at ck;clear hnx h2 hw
     go_wp2_with (fail)
     refine (HW.out k _ (HR.out.drew q)).mono ?_;rintro e w2 ⟨rfl, q2, rfl⟩;rw [HWD.out]
     go_wp2_with (fail)
     refine (HP.out k _ hk (HR.out.drew (q + q2))).mono ?_;rintro e w2 ⟨rfl, q3, rfl⟩;rcases HNX.out with ⟨h, hf⟩ | ⟨p, h, hpk, hf⟩
     ·rw [h];have HF := Lib.hid hf;clear hf h HNX;go_wp2
      go_roundw
      case rel => exact ⟨q + q2 + q3, rfl, Or.inl ⟨rfl, HF.out⟩⟩
      case measure => simp [intOf] <;> omega
     ·rw [h];have HF := Lib.hid hf;clear hf h HNX;go_wp2
      go_roundw
      case rel => exact ⟨q + q2 + q3, rfl, Or.inr ⟨p, by omega, rfl, HF.out⟩⟩
      case measure => simp [intOf] <;> omega
   ·have HNX := Lib.hid (hnx (decide_eq_false (fun h => h2 h.1)));have hk2 := int_ne h2;clear hnx h2
    go_wp2_with (fail)
    refine (HP.out k _ hk (HR.out.drew q)).mono ?_;rintro e w2 ⟨rfl, q3, rfl⟩;rcases HNX.out with ⟨h, hf⟩ | ⟨p, h, hpk, hf⟩
    ·rw [h];have HF := Lib.hid hf;clear hf h HNX;go_wp2
     go_roundw
     case rel => exact ⟨q + q3, rfl, Or.inl ⟨rfl, HF.out⟩⟩
     case measure => simp [intOf] <;> omega
    ·rw [h];have HF := Lib.hid hf;clear hf h HNX;go_wp2
     go_roundw
     case rel => exact ⟨q + q3, rfl, Or.inr ⟨p, by omega, rfl, HF.out⟩⟩
     case measure => simp [intOf] <;> omega
end Go.Proofs.YtcnfcililiehlaaGreatDoor.Tr
