/- Own texts, joined: Eo, Eq, En, Ep, Er, Es, Et, Eu, F1, F2, F7. -/
import Derived.Test.YtcnfcililiehlaaGreatDoorR2
namespace Go.Proofs.YtcnfcililiehlaaGreatDoor
open Go.RowKit
def operN (op : Int) : Nat := if 1 <= op /\ op <= 6 then 0 else if 7 <= op /\ op <= 10 then 1 else 2
def formedB (c : CM) : Bool :=
 if c.op = 1 then decide (c.nm = []) && (decide (0 <= c.a) && decide (c.a <= 1099511627776))
 else if c.op = 2 then decide (c.nm = []) && (decide (0 <= c.a) && decide (c.a <= 1048576))
 else if c.op = 5 \/ c.op = 6 then decide (c.a = 0) && nameB c.nm
 else decide (1 <= c.op) && (decide (c.op <= 23) && (decide (c.a = 0) && decide (c.nm = [])))
theorem op_cases (op : Int) : op = 1 \/ op = 2 \/ op = 3 \/ op = 4 \/ op = 5 \/ op = 6 \/ op = 7 \/ op = 8 \/ op = 9 \/ op = 10 \/ (¬ (1 <= op /\ op <= 10)) := by omega
theorem int_ne {a b : Int} (h : a ≠ b) : (a == b) = false := beq_eq_false_iff_ne.2 h
theorem operands_any (op : Int) (w : World) :
 Calls Tryz.prog 232 #[.int .i64 op] w fun e w' => e = .returned (.int .i64 (operN op)) /\ w = w' := by
 rcases op_cases op with h | h | h | h | h | h | h | h | h | h | h
 ·subst h
  go_enter Tryz.func232, Tryz.ntmps232
  go_wp2;go_ret;exact ⟨rfl, rfl⟩
 ·subst h
  go_enter Tryz.func232, Tryz.ntmps232
  go_wp2;go_ret;exact ⟨rfl, rfl⟩
 ·subst h
  go_enter Tryz.func232, Tryz.ntmps232
  go_wp2;go_ret;exact ⟨rfl, rfl⟩
 ·subst h
  go_enter Tryz.func232, Tryz.ntmps232
  go_wp2;go_ret;exact ⟨rfl, rfl⟩
 ·subst h
  go_enter Tryz.func232, Tryz.ntmps232
  go_wp2;go_ret;exact ⟨rfl, rfl⟩
 ·subst h
  go_enter Tryz.func232, Tryz.ntmps232
  go_wp2;go_ret;exact ⟨rfl, rfl⟩
 ·subst h
  go_enter Tryz.func232, Tryz.ntmps232
  go_wp2;go_ret;exact ⟨rfl, rfl⟩
 ·subst h
  go_enter Tryz.func232, Tryz.ntmps232
  go_wp2;go_ret;exact ⟨rfl, rfl⟩
 ·subst h
  go_enter Tryz.func232, Tryz.ntmps232
  go_wp2;go_ret;exact ⟨rfl, rfl⟩
 ·subst h
  go_enter Tryz.func232, Tryz.ntmps232
  go_wp2;go_ret;exact ⟨rfl, rfl⟩
 have hN : operN op = 2 := by unfold operN; rw [if_neg (by omega), if_neg (by omega)]
 rw [hN]; clear hN;have t1 := int_ne (a := op) (b := 1) (by omega);have t2 := int_ne (a := op) (b := 2) (by omega);have t3 := int_ne (a := op) (b := 3) (by omega);have t4 := int_ne (a := op) (b := 4) (by omega);have t5 := int_ne (a := op) (b := 5) (by omega);have t6 := int_ne (a := op) (b := 6) (by omega);have t7 := int_ne (a := op) (b := 7) (by omega);have t8 := int_ne (a := op) (b := 8) (by omega);have t9 := int_ne (a := op) (b := 9) (by omega);have t10 := int_ne (a := op) (b := 10) (by omega);clear h
 go_enter Tryz.func232, Tryz.ntmps232
 go_wp2;go_ret;exact ⟨rfl, rfl⟩
set_option maxHeartbeats 2000000 in
theorem formed_any (c : CM) (w : World) :
 Calls Tryz.prog 233 #[.agg #[.int .i64 c.op, .int .i64 c.a, bstr c.nm]] w fun e w' => e = .returned (.bool (formedB c)) /\ Below w.heap.size w w' := by
 obtain ⟨op, a, nm⟩ := c;obtain ⟨X, hX⟩ : ∃ X : ByteArray, X = ⟨nm.toArray⟩ := ⟨_, rfl⟩
 have hXl : X.data.toList = nm := by rw [hX]
 have hb : bstr nm = .string X := by rw [hX]; rfl
 simp only;rw [hb];clear hb hX;subst hXl;have HBox : ∀ W : World, ∀ o : Obj, Below W.heap.size W (W.alloc o) := fun W o => (Below.refl _ _).alloc (Nat.le_refl _) o
 have HB := Lib.hid HBox; clear HBox;by_cases h1 : op = 1
 ·subst h1;have hF : formedB ⟨1, a, X.data.toList⟩ = (decide (X.data.toList = []) && (decide (0 <= a) && decide (a <= 1099511627776))) := rfl;rw [hF]; clear hF;rw [<- Lib.toList_data];by_cases hn : X.toList = []
  ·have hne : X.toList.isEmpty = true := by rw [hn]; rfl
   rw [decide_eq_true hn];clear hn;by_cases ha : 0 <= a
   ·by_cases hb : a <= 1099511627776
    ·rw [decide_eq_true ha, decide_eq_true hb]
     go_enter Tryz.func233, Tryz.ntmps233
     go_wp2;go_ret;exact ⟨rfl, HB.out _ _⟩
    ·rw [decide_eq_true ha, decide_eq_false hb];have hb' := decide_eq_false hb;clear hb
     go_enter Tryz.func233, Tryz.ntmps233
     go_wp2;go_ret;exact ⟨rfl, HB.out _ _⟩
   ·rw [decide_eq_false ha];have ha' := decide_eq_false ha;clear ha
    go_enter Tryz.func233, Tryz.ntmps233
    go_wp2;go_ret;exact ⟨rfl, HB.out _ _⟩
  ·have hne : X.toList.isEmpty = false := by
    cases h : X.toList with
    | nil => exact absurd h hn
    | cons _ _ => rfl
   rw [decide_eq_false hn]
   go_enter Tryz.func233, Tryz.ntmps233
   go_wp2;go_ret;exact ⟨rfl, HB.out _ _⟩
 ·by_cases h2 : op = 2
  ·subst h2;have hF : formedB ⟨2, a, X.data.toList⟩ = (decide (X.data.toList = []) && (decide (0 <= a) && decide (a <= 1048576))) := rfl;rw [hF]; clear hF;rw [<- Lib.toList_data];by_cases hn : X.toList = []
   ·have hne : X.toList.isEmpty = true := by rw [hn]; rfl
    rw [decide_eq_true hn];clear hn;by_cases ha : 0 <= a
    ·by_cases hb : a <= 1048576
     ·rw [decide_eq_true ha, decide_eq_true hb]
      go_enter Tryz.func233, Tryz.ntmps233
      go_wp2;go_ret;exact ⟨rfl, HB.out _ _⟩
     ·rw [decide_eq_true ha, decide_eq_false hb];have hb' := decide_eq_false hb;clear hb
      go_enter Tryz.func233, Tryz.ntmps233
      go_wp2;go_ret;exact ⟨rfl, HB.out _ _⟩
    ·rw [decide_eq_false ha];have ha' := decide_eq_false ha;clear ha
     go_enter Tryz.func233, Tryz.ntmps233
     go_wp2;go_ret;exact ⟨rfl, HB.out _ _⟩
   ·have hne : X.toList.isEmpty = false := by
     cases h : X.toList with
     | nil => exact absurd h hn
     | cons _ _ => rfl
    rw [decide_eq_false hn]
    go_enter Tryz.func233, Tryz.ntmps233
    go_wp2;go_ret;exact ⟨rfl, HB.out _ _⟩
  ·by_cases h56 : op = 5 \/ op = 6
   ·have hF : formedB ⟨op, a, X.data.toList⟩ = (decide (a = 0) && nameB X.data.toList) := by
     unfold formedB;simp only;rw [if_neg h1, if_neg h2, if_pos h56]
    rw [hF]; clear hF;have HN := Lib.hid (name_any X);by_cases ha : a = 0
    ·subst ha;cases hn : nameB X.data.toList
     all_goals
      have HNN := Lib.hid hn;clear hn;rcases h56 with h | h
     all_goals
      subst h;clear h1 h2
      go_enter Tryz.func233, Tryz.ntmps233
      go_wp2_with fail
      refine (HN.out _).mono ?_;rintro e w1 ⟨rfl, rfl⟩;rw [HNN.out];go_wp2;go_ret;exact ⟨rfl, HB.out _ _⟩
    ·have ha' := int_ne ha;rw [decide_eq_false ha];clear ha;rcases h56 with h | h
     all_goals
      subst h;clear h1 h2
      go_enter Tryz.func233, Tryz.ntmps233
      go_wp2;go_ret;exact ⟨rfl, HB.out _ _⟩
   ·have hF : formedB ⟨op, a, X.data.toList⟩ = (decide (1 <= op) && (decide (op <= 23) && (decide (a = 0) && decide (X.data.toList = [])))) := by
     unfold formedB;simp only;rw [if_neg h1, if_neg h2, if_neg h56]
    rw [hF]; clear hF;rw [<- Lib.toList_data];have t1 := int_ne h1;have t2 := int_ne h2;have t5 := int_ne (a := op) (b := 5) (fun e => h56 (Or.inl e));have t6 := int_ne (a := op) (b := 6) (fun e => h56 (Or.inr e));clear h1 h2 h56;by_cases h1 : 1 <= op
    ·rw [decide_eq_true h1];by_cases h23 : op <= 23
     ·rw [decide_eq_true h23];by_cases ha : a = 0
      ·subst ha;by_cases hn : X.toList = []
       ·have hne : X.toList.isEmpty = true := by rw [hn]; rfl
        rw [decide_eq_true hn];clear hn
        go_enter Tryz.func233, Tryz.ntmps233
        go_wp2;go_ret;exact ⟨rfl, HB.out _ _⟩
       ·have hne : X.toList.isEmpty = false := by
         cases h : X.toList with
         | nil => exact absurd h hn
         | cons _ _ => rfl
        rw [decide_eq_false hn]
        go_enter Tryz.func233, Tryz.ntmps233
        go_wp2;go_ret;exact ⟨rfl, HB.out _ _⟩
      ·have ha' := int_ne ha;rw [decide_eq_false ha];clear ha
       go_enter Tryz.func233, Tryz.ntmps233
       go_wp2;go_ret;exact ⟨rfl, HB.out _ _⟩
     ·have h23' := decide_eq_false h23;rw [h23'];clear h23
      go_enter Tryz.func233, Tryz.ntmps233
      go_wp2;go_ret;exact ⟨rfl, HB.out _ _⟩
    ·have h1' := decide_eq_false h1;rw [h1'];clear h1
     go_enter Tryz.func233, Tryz.ntmps233
     go_wp2;go_ret;exact ⟨rfl, HB.out _ _⟩
end Go.Proofs.YtcnfcililiehlaaGreatDoor
namespace Go.Proofs.YtcnfcililiehlaaGreatDoor
open Go.RowKit
theorem sz0 (s : ByteArray) : s.data.toList.length = s.size := (Lib.size_eq s).symm
end Go.Proofs.YtcnfcililiehlaaGreatDoor
namespace Go.Proofs.YtcnfcililiehlaaGreatDoor
open Go.RowKit
structure Own (w : World) (cs : List CM) (v : Value) (w' : World) : Prop where
 own : w'.ownsRow w.heap.size 176 3 v cs.length (flat cs)
 below : Below w.heap.size w w'
def ParsePost (l : List UInt8) (w : World) (e : Ending) (w' : World) : Prop :=
 ∃ v, e = .returned (.tuple #[v, .int .i64 (parseP l).2.1, .int .i64 (parseP l).2.2]) /\ Own w (parseP l).1 v w'
end Go.Proofs.YtcnfcililiehlaaGreatDoor
namespace Go.Proofs.YtcnfcililiehlaaGreatDoor
open Go.RowKit
def RdC (w : World) (v : Value) (cs : List CM) : Prop :=
 ∃ (A : Option Addr) (c : Nat), v = .slice A cs.length c /\ ∀ i (h : i < cs.length), ∃ b o, A = some ⟨b, o, none⟩ /\
  w.cell? ⟨b, o + i * 3, none⟩ = some (.int .i64 cs[i].op) /\ w.cell? ⟨b, o + i * 3 + 1, none⟩ = some (.int .i64 cs[i].a) /\ w.cell? ⟨b, o + i * 3 + 2, none⟩ = some (bstr cs[i].nm)
theorem cell_lt {w : World} {p : Addr} {u : Value} (h : w.cell? p = some u) : p.block < w.heap.size := World.block_lt_of_cell? w p h
theorem RdC.below {w w' : World} {v : Value} {cs : List CM} (h : RdC w v cs) (hb : Below w.heap.size w w') : RdC w' v cs := by
 obtain ⟨A, c, rfl, hr⟩ := h;refine ⟨A, c, rfl, fun i hi => ?_⟩;obtain ⟨b, o, rfl, h0, h1, h2⟩ := hr i hi;exact ⟨b, o, rfl, (hb.cell (cell_lt h0)).trans h0, (hb.cell (cell_lt h1)).trans h1, (hb.cell (cell_lt h2)).trans h2⟩
def runB : List CM -> Nat -> Option Nat
 | [], v => some v
 | c :: r, v => if formedB c = true /\ operN c.op <= v then runB r (v + 1 - operN c.op) else none
def rightB (cs : List CM) : Bool := decide (cs.length <= 32) && (runB cs 0 == some 1)
theorem operN_le (op : Int) : operN op <= 2 := by unfold operN; split; omega; split <;> omega
theorem run_at {cs : List CM} {k v : Nat} (hk : k < cs.length) : runB (cs.drop k) v = if formedB cs[k] = true /\ operN cs[k].op <= v then runB (cs.drop (k + 1)) (v + 1 - operN cs[k].op) else none := by
 rw [List.drop_eq_getElem_cons hk]; rfl
set_option maxHeartbeats 2000000 in
theorem right_any (v : Value) (cs : List CM) (w : World) (hR : RdC w v cs) (hl : cs.length <= 4611686018427387904) :
 Calls Tryz.prog 201 #[v] w fun e w' => e = .returned (.bool (rightB cs)) /\ Below w.heap.size w w' := by
 obtain ⟨A, c, rfl, hr⟩ := hR;by_cases h32 : 32 < cs.length
 ·have hB : rightB cs = false := by unfold rightB; rw [decide_eq_false (by omega)]; rfl
  rw [hB]; clear hB hr;have h32' : (32 : Int) < cs.length := by omega
  go_enter Tryz.func201, Tryz.ntmps201
  go_wp2;go_ret;exact ⟨rfl, Below.refl _ _⟩
 ·have hB : rightB cs = (runB cs 0 == some 1) := by unfold rightB; rw [decide_eq_true (by omega)]; rfl
  rw [hB]; clear hB;have h32' : decide ((32 : Int) < cs.length) = false := decide_eq_false (by omega);have HR := Lib.hid hr; clear hr;obtain ⟨n, hn⟩ : ∃ n, cs.length = n := ⟨_, rfl⟩
  have HN := Lib.hid hn;rw [hn] at h32' hl h32 ⊢;clear hn
  go_enter Tryz.func201, Tryz.ntmps201
  go_wp2
  go_loopw [2, 3, 12] (fun x2 vv i wr => x2 = .bool false /\ ∃ k vs : Nat, k <= n /\ vs <= k /\ i = .int .i64 k /\ vv = .int .i64 vs /\ Hid (runB (cs.drop k) vs = runB cs 0) /\ Below w.heap.size w wr) (fun _ _ i _ => n - (intOf i).toNat)
  case atStart => exact ⟨rfl, 0, 0, by omega, by omega, rfl, rfl, rfl, Below.refl _ _⟩
  case round =>
   obtain ⟨rfl, k, vs, hk, hvs, rfl, rfl, HB, hb⟩ := hrel;have HBL := Lib.hid hb;by_cases hkn : k < n
   ·obtain ⟨b, o, rfl, d0, d1, d2⟩ := HR.out k (by rw [HN.out]; exact hkn);have hrun := run_at (cs := cs) (k := k) (v := vs) (by rw [HN.out]; exact hkn);rw [HB.out] at hrun;obtain ⟨cc, hcc⟩ : ∃ cc, cs[k]'(by rw [HN.out]; exact hkn) = cc := ⟨_, rfl⟩
    rw [hcc] at d0 d1 d2 hrun;have e0 := (hb.cell (cell_lt d0)).trans d0;have e1 := (hb.cell (cell_lt d1)).trans d1;have e2 := (hb.cell (cell_lt d2)).trans d2;have hon := operN_le cc.op;obtain ⟨X, hX⟩ : ∃ X : ByteArray, bstr cc.nm = .string X := ⟨_, rfl⟩
    have hfm := formed_any cc;rw [hX] at e2 hfm;have HFM := Lib.hid hfm;have HRUN := Lib.hid hrun;clear d0 d1 d2 hcc hrun hb hX hfm;cases hf : formedB cc
    ·have HFF := Lib.hid hf;have hE : runB cs 0 = none := by rw [HRUN.out, hf, if_neg (by simp)]
     have HE := Lib.hid hE;clear hE hf
     go_wp2_with fail
     refine (operands_any _ _).mono ?_;rintro e w1 ⟨rfl, rfl⟩
     go_wp2_with fail
     refine (HFM.out _).mono ?_;rintro e w2 ⟨rfl, hb2⟩;have HB2 := Lib.hid hb2; clear hb2;rw [HFF.out];go_wp2;go_ret;exact ⟨by rw [HE.out]; rfl, (HBL.out.alloc HBL.out.size _).trans (HB2.out.mono (by have := HBL.out.size; simp; omega))⟩
    ·have HFF := Lib.hid hf;by_cases hov : operN cc.op <= vs
     ·have hE : runB (cs.drop (k + 1)) (vs + 1 - operN cc.op) = runB cs 0 := by rw [HRUN.out, hf, if_pos ⟨rfl, hov⟩]
      have HE := Lib.hid hE;clear hE hf;have hov' : decide ((vs : Int) < (operN cc.op : Int)) = false := decide_eq_false (by omega)
      go_wp2_with fail
      refine (operands_any _ _).mono ?_;rintro e w1 ⟨rfl, rfl⟩
      go_wp2_with fail
      refine (HFM.out _).mono ?_;rintro e w2 ⟨rfl, hb2⟩;have HB2 := Lib.hid hb2; clear hb2;rw [HFF.out];go_wp2
      go_roundw
      case rel => exact ⟨rfl, k + 1, vs + 1 - operN cc.op, by omega, by omega, by go_num, by congr 1; omega, HE, (HBL.out.alloc HBL.out.size _).trans (HB2.out.mono (by have := HBL.out.size; simp; omega))⟩
      case measure => simp [intOf]; omega
     ·have hE : runB cs 0 = none := by rw [HRUN.out, hf, if_neg (by simp; omega)]
      have HE := Lib.hid hE;clear hE hf;have hov' : (vs : Int) < (operN cc.op : Int) := by omega
      go_wp2_with fail
      refine (operands_any _ _).mono ?_;rintro e w1 ⟨rfl, rfl⟩
      go_wp2_with fail
      refine (HFM.out _).mono ?_;rintro e w2 ⟨rfl, hb2⟩;have HB2 := Lib.hid hb2; clear hb2;rw [HFF.out];go_wp2;go_ret;exact ⟨by rw [HE.out]; rfl, (HBL.out.alloc HBL.out.size _).trans (HB2.out.mono (by have := HBL.out.size; simp; omega))⟩
   ·have hE : runB cs 0 = some vs := by
     rw [<- HB.out, List.drop_of_length_le (by rw [HN.out]; omega)]; rfl
    have hE2 : (runB cs 0 == some 1) = ((vs : Int) == 1) := by
     rw [hE];by_cases h : vs = 1
     ·subst h; rfl
     ·rw [int_ne (show (vs : Int) ≠ 1 by omega)]; simp [h]
    have HE := Lib.hid hE2;clear hE hE2;go_wp2;go_ret;exact ⟨by rw [HE.out]; rfl, HBL.out⟩
end Go.Proofs.YtcnfcililiehlaaGreatDoor
namespace Go.Proofs.YtcnfcililiehlaaGreatDoor
open Go.RowKit
theorem tab_cells (k : Nat) (hk : k < 13) : opsCells[k * 3]? = some (.int .i64 (tabAt k).1) /\ opsCells[k * 3 + 1]? = some (.string ⟨(tabAt k).2.1.toArray⟩) /\ opsCells[k * 3 + 2]? = some (.int .i64 (tabAt k).2.2) := by
 have h : k = 0 \/ k = 1 \/ k = 2 \/ k = 3 \/ k = 4 \/ k = 5 \/ k = 6 \/ k = 7 \/ k = 8 \/ k = 9 \/ k = 10 \/ k = 11 \/ k = 12 := by omega
 rcases h with rfl | rfl | rfl | rfl | rfl | rfl | rfl | rfl | rfl | rfl | rfl | rfl | rfl <;> exact ⟨rfl, rfl, rfl⟩
end Go.Proofs.YtcnfcililiehlaaGreatDoor
namespace Go.Proofs.YtcnfcililiehlaaGreatDoor
open Go.RowKit
theorem name_len {l : List UInt8} (h : nameB l = true) : l.length <= 12 := by
 rcases Nat.lt_or_ge 12 l.length with h1 | h1
 ·rw [nameB_long h1] at h; cases h
 ·exact h1
theorem formed_name {c : CM} (h : formedB c = true) : c.nm.length <= 12 := by
 unfold formedB at h;split at h
 ·simp at h; rw [h.1]; simp
 ·split at h
  ·simp at h; rw [h.1]; simp
  ·split at h
   ·simp at h; exact name_len h.2
   ·simp at h; rw [h.2.2.2]; simp
theorem formed_op {c : CM} (h : formedB c = true) : 1 <= c.op /\ c.op <= 23 := by
 unfold formedB at h;split at h
 ·omega
 ·split at h
  ·omega
  ·split at h
   ·omega
   ·simp at h; exact ⟨h.1, h.2.1⟩
end Go.Proofs.YtcnfcililiehlaaGreatDoor
namespace Go.Proofs.YtcnfcililiehlaaGreatDoor
open Go.RowKit
theorem own_form {w : World} {base : Nat} {e : TypeId} {size n : Nat} {v : Value} {xs : List Value} (h : w.ownsRow base e size v n xs) : (v = .slice none 0 0 /\ n = 0) \/ ∃ g cap, v = .slice (some ⟨g, 0, none⟩) n cap /\ n <= cap /\ cap <= maxLen := by
 rcases h.2 with ⟨hv, h0⟩ | ⟨g, cap, cur, hv, _, _, h1, h2, _⟩
 ·exact Or.inl ⟨hv, h0⟩
 ·exact Or.inr ⟨g, cap, hv, h1, h2⟩
end Go.Proofs.YtcnfcililiehlaaGreatDoor
namespace Go.Proofs.YtcnfcililiehlaaGreatDoor
open Go.RowKit
def RdI (w : World) (v : Value) (cs : List CM) : Prop := (v = .slice none 0 0 /\ cs = []) \/ ∃ ad c, v = .slice (some ad) cs.length c /\ RdC w v cs
theorem RdI.rd {w : World} {v : Value} {cs : List CM} (h : RdI w v cs) : RdC w v cs := by
 rcases h with ⟨rfl, rfl⟩ | ⟨_, _, _, h⟩
 ·exact ⟨_, _, rfl, fun i hi => absurd hi (by simp)⟩
 ·exact h
theorem RdI.below {w w' : World} {v : Value} {cs : List CM} (h : RdI w v cs) (hb : Below w.heap.size w w') : RdI w' v cs := by
 rcases h with h | ⟨ad, c, e, h⟩
 ·exact Or.inl h
 ·exact Or.inr ⟨ad, c, e, h.below hb⟩
theorem add_lit' (b o n : Nat) : (⟨b, o, none⟩ : Addr).add n = ⟨b, o + n, none⟩ := by unfold Addr.add; by_cases h : n = 0 <;> simp [h]
theorem own_slice {w : World} {base : Nat} {e : TypeId} {size n : Nat} {v : Value} {xs : List Value} (h : w.ownsRow base e size v n xs) : ∃ A c, v = .slice A n c := by
 rcases own_form h with ⟨rfl, rfl⟩ | ⟨g, cap, rfl, _⟩
 ·exact ⟨_, _, rfl⟩
 ·exact ⟨_, _, rfl⟩
end Go.Proofs.YtcnfcililiehlaaGreatDoor
namespace Go.Proofs.YtcnfcililiehlaaGreatDoor
open Go.RowKit
theorem op_cases5 (op : Int) : op = 1 \/ op = 2 \/ op = 5 \/ op = 6 \/ (op ≠ 1 /\ op ≠ 2 /\ op ≠ 5 /\ op ≠ 6) := by omega
def opsR (c : CM) : Int := if formedB c = true then operN c.op else -1
theorem opsR_no {c : CM} (h : formedB c = false) : opsR c = -1 := by unfold opsR; rw [h]; rfl
theorem opsR_yes {c : CM} (h : formedB c = true) : opsR c = operN c.op := by unfold opsR; rw [if_pos h]
theorem ret_int {k : IntKind} {a b : Int} (h : a = b) : Ending.returned (.int k a) = .returned (.int k b) := by rw [h]
set_option maxRecDepth 100000 in
set_option maxHeartbeats 4000000 in
theorem refOperands_any (c : CM) (w : World) (hl : c.nm.length <= 9223372036854775807) :
 Calls Tryz.prog 181 #[.agg #[.int .i64 c.op, .int .i64 c.a, bstr c.nm]] w fun e w' => e = .returned (.int .i64 (opsR c)) /\ Below w.heap.size w w' := by
 obtain ⟨op, a, nm⟩ := c;obtain ⟨X, hX⟩ : ∃ X : ByteArray, X = ⟨nm.toArray⟩ := ⟨_, rfl⟩
 have hXl : X.data.toList = nm := by rw [hX]
 have hb : bstr nm = .string X := by rw [hX]; rfl
 simp only at hl ⊢;rw [hb];clear hb hX;subst hXl;rw [sz0] at hl;have HB : Hid (∀ W : World, ∀ o : Obj, Below W.heap.size W (W.alloc o)) := fun W o => (Below.refl _ _).alloc (Nat.le_refl _) o
 have HN := Lib.hid (refName_any X);by_cases hx : X.size = 0
 ·have hnil : X.data.toList = [] := List.eq_nil_of_length_eq_zero (by rw [sz0]; exact hx);have hx0 : decide ((0 : Int) < X.size) = false := decide_eq_false (by omega);have hx1 : decide (0 < X.size) = false := decide_eq_false (by omega);have hx2 : ¬ 0 < X.size := by omega
  have HNIL := Lib.hid hnil;clear hx hl hnil;rcases op_cases5 op with rfl | rfl | rfl | rfl | ⟨h1, h2, h5, h6⟩
  ·by_cases ha : a < 0
   ·have HR := Lib.hid (opsR_no (c := ⟨1, a, X.data.toList⟩) (by simp [formedB]; omega))
    go_enter Tryz.func181, Tryz.ntmps181
    go_wp2;go_ret;exact ⟨ret_int HR.out.symm, HB.out _ _⟩
   ·have ha0 := decide_eq_false ha;by_cases hb : 1099511627776 < a
    ·have HR := Lib.hid (opsR_no (c := ⟨1, a, X.data.toList⟩) (by simp [formedB]; omega))
     go_enter Tryz.func181, Tryz.ntmps181
     go_wp2;go_ret;exact ⟨ret_int HR.out.symm, HB.out _ _⟩
    ·have hb0 := decide_eq_false hb;have HR := Lib.hid (opsR_yes (c := ⟨1, a, X.data.toList⟩) (by simp [formedB, HNIL.out]; omega));clear ha hb
     go_enter Tryz.func181, Tryz.ntmps181
     go_wp2;go_ret;exact ⟨ret_int HR.out.symm, HB.out _ _⟩
  ·by_cases ha : a < 0
   ·have HR := Lib.hid (opsR_no (c := ⟨2, a, X.data.toList⟩) (by simp [formedB]; omega))
    go_enter Tryz.func181, Tryz.ntmps181
    go_wp2;go_ret;exact ⟨ret_int HR.out.symm, HB.out _ _⟩
   ·have ha0 := decide_eq_false ha;by_cases hb : 1048576 < a
    ·have HR := Lib.hid (opsR_no (c := ⟨2, a, X.data.toList⟩) (by simp [formedB]; omega))
     go_enter Tryz.func181, Tryz.ntmps181
     go_wp2;go_ret;exact ⟨ret_int HR.out.symm, HB.out _ _⟩
    ·have hb0 := decide_eq_false hb;have HR := Lib.hid (opsR_yes (c := ⟨2, a, X.data.toList⟩) (by simp [formedB, HNIL.out]; omega));clear ha hb
     go_enter Tryz.func181, Tryz.ntmps181
     go_wp2;go_ret;exact ⟨ret_int HR.out.symm, HB.out _ _⟩
  ·have HR := Lib.hid (opsR_no (c := ⟨5, a, X.data.toList⟩) (by simp [formedB, HNIL.out, nameB]))
   go_enter Tryz.func181, Tryz.ntmps181
   go_wp2;go_ret;exact ⟨ret_int HR.out.symm, HB.out _ _⟩
  ·have HR := Lib.hid (opsR_no (c := ⟨6, a, X.data.toList⟩) (by simp [formedB, HNIL.out, nameB]))
   go_enter Tryz.func181, Tryz.ntmps181
   go_wp2;go_ret;exact ⟨ret_int HR.out.symm, HB.out _ _⟩
  ·have n1 := int_ne h1;have n2 := int_ne h2;have n5 := int_ne h5;have n6 := int_ne h6;have hF : formedB ⟨op, a, X.data.toList⟩ = (decide (1 <= op) && (decide (op <= 23) && decide (a = 0))) := by simp [formedB, h1, h2, h5, h6, HNIL.out]
   have HF := Lib.hid hF;clear hF;by_cases ha : a = 0
   ·subst ha;by_cases hlo : op < 1
    ·have HR := Lib.hid (opsR_no (c := ⟨op, 0, X.data.toList⟩) (by rw [HF.out, decide_eq_false (by omega)]; rfl))
     go_enter Tryz.func181, Tryz.ntmps181
     go_wp2;go_ret;exact ⟨ret_int HR.out.symm, HB.out _ _⟩
    ·have hlo0 := decide_eq_false hlo;by_cases hhi : 23 < op
     ·have HR := Lib.hid (opsR_no (c := ⟨op, 0, X.data.toList⟩) (by rw [HF.out, decide_eq_false (show ¬ op <= 23 by omega)]; simp))
      go_enter Tryz.func181, Tryz.ntmps181
      go_wp2;go_ret;exact ⟨ret_int HR.out.symm, HB.out _ _⟩
     ·have hhi0 := decide_eq_false hhi;have HR := Lib.hid (opsR_yes (c := ⟨op, 0, X.data.toList⟩) (by rw [HF.out, decide_eq_true (show 1 <= op by omega), decide_eq_true (show op <= 23 by omega)]; rfl));by_cases h6' : op <= 6
      ·have HR2 : Hid (opsR ⟨op, 0, X.data.toList⟩ = 0) := by rw [HR.out]; unfold operN; rw [if_pos (by simp only; omega)]; exact rfl
       clear hlo hhi h1 h2 h5 h6
       go_enter Tryz.func181, Tryz.ntmps181
       go_wp2;go_ret;exact ⟨ret_int HR2.out.symm, HB.out _ _⟩
      ·have h6d := decide_eq_false h6';by_cases h10 : op <= 10
       ·have HR2 : Hid (opsR ⟨op, 0, X.data.toList⟩ = 1) := by rw [HR.out]; unfold operN; rw [if_neg (by simp only; omega), if_pos (by simp only; omega)]; exact rfl
        clear hlo hhi h6' h1 h2 h5 h6
        go_enter Tryz.func181, Tryz.ntmps181
        go_wp2;go_ret;exact ⟨ret_int HR2.out.symm, HB.out _ _⟩
       ·have h10d := decide_eq_false h10;have HR2 : Hid (opsR ⟨op, 0, X.data.toList⟩ = 2) := by rw [HR.out]; unfold operN; rw [if_neg (by simp only; omega), if_neg (by simp only; omega)]; exact rfl
        clear hlo hhi h6' h10 h1 h2 h5 h6
        go_enter Tryz.func181, Tryz.ntmps181
        go_wp2;go_ret;exact ⟨ret_int HR2.out.symm, HB.out _ _⟩
   ·have ha0 : (a != 0) = true := bne_iff_ne.2 ha;have HR := Lib.hid (opsR_no (c := ⟨op, a, X.data.toList⟩) (by rw [HF.out, decide_eq_false ha]; simp));clear ha
    go_enter Tryz.func181, Tryz.ntmps181
    go_wp2;go_ret;exact ⟨ret_int HR.out.symm, HB.out _ _⟩
 ·have hx0 : (0 : Int) < X.size := by omega
  have hx1 : 0 < X.size := by omega
  have hne : X.data.toList ≠ [] := fun e => hx (by rw [<- sz0, e]; rfl)
  have HNE := Lib.hid hne;clear hx;rcases op_cases5 op with rfl | rfl | rfl | rfl | ⟨h1, h2, h5, h6⟩
  ·have HR := Lib.hid (opsR_no (c := ⟨1, a, X.data.toList⟩) (by simp [formedB, hne]));clear hne
   go_enter Tryz.func181, Tryz.ntmps181
   go_wp2;go_ret;exact ⟨ret_int HR.out.symm, HB.out _ _⟩
  ·have HR := Lib.hid (opsR_no (c := ⟨2, a, X.data.toList⟩) (by simp [formedB, hne]));clear hne
   go_enter Tryz.func181, Tryz.ntmps181
   go_wp2;go_ret;exact ⟨ret_int HR.out.symm, HB.out _ _⟩
  ·clear hne;cases hn : nameB X.data.toList
   ·have HNN := Lib.hid hn;have HR := Lib.hid (opsR_no (c := ⟨5, a, X.data.toList⟩) (by simp [formedB, hn]));clear hn
    go_enter Tryz.func181, Tryz.ntmps181
    go_wp2_with fail
    refine (HN.out _).mono ?_;rintro e w1 ⟨rfl, rfl⟩;rw [HNN.out];go_wp2;go_ret;exact ⟨ret_int HR.out.symm, HB.out _ _⟩
   ·have HNN := Lib.hid hn;by_cases ha : a = 0
    ·subst ha;have HR := Lib.hid (opsR_yes (c := ⟨5, 0, X.data.toList⟩) (by simp [formedB, hn]));clear hn
     go_enter Tryz.func181, Tryz.ntmps181
     go_wp2_with fail
     refine (HN.out _).mono ?_;rintro e w1 ⟨rfl, rfl⟩;rw [HNN.out];go_wp2;go_ret;exact ⟨ret_int HR.out.symm, HB.out _ _⟩
    ·have ha0 : (a != 0) = true := bne_iff_ne.2 ha;have HR := Lib.hid (opsR_no (c := ⟨5, a, X.data.toList⟩) (by simp [formedB, ha]));clear hn ha
     go_enter Tryz.func181, Tryz.ntmps181
     go_wp2_with fail
     refine (HN.out _).mono ?_;rintro e w1 ⟨rfl, rfl⟩;rw [HNN.out];go_wp2;go_ret;exact ⟨ret_int HR.out.symm, HB.out _ _⟩
  ·clear hne;cases hn : nameB X.data.toList
   ·have HNN := Lib.hid hn;have HR := Lib.hid (opsR_no (c := ⟨6, a, X.data.toList⟩) (by simp [formedB, hn]));clear hn
    go_enter Tryz.func181, Tryz.ntmps181
    go_wp2_with fail
    refine (HN.out _).mono ?_;rintro e w1 ⟨rfl, rfl⟩;rw [HNN.out];go_wp2;go_ret;exact ⟨ret_int HR.out.symm, HB.out _ _⟩
   ·have HNN := Lib.hid hn;by_cases ha : a = 0
    ·subst ha;have HR := Lib.hid (opsR_yes (c := ⟨6, 0, X.data.toList⟩) (by simp [formedB, hn]));clear hn
     go_enter Tryz.func181, Tryz.ntmps181
     go_wp2_with fail
     refine (HN.out _).mono ?_;rintro e w1 ⟨rfl, rfl⟩;rw [HNN.out];go_wp2;go_ret;exact ⟨ret_int HR.out.symm, HB.out _ _⟩
    ·have ha0 : (a != 0) = true := bne_iff_ne.2 ha;have HR := Lib.hid (opsR_no (c := ⟨6, a, X.data.toList⟩) (by simp [formedB, ha]));clear hn ha
     go_enter Tryz.func181, Tryz.ntmps181
     go_wp2_with fail
     refine (HN.out _).mono ?_;rintro e w1 ⟨rfl, rfl⟩;rw [HNN.out];go_wp2;go_ret;exact ⟨ret_int HR.out.symm, HB.out _ _⟩
  ·have n1 := int_ne h1;have n2 := int_ne h2;have n5 := int_ne h5;have n6 := int_ne h6;have HR := Lib.hid (opsR_no (c := ⟨op, a, X.data.toList⟩) (by simp [formedB, h1, h2, h5, h6, hne]));clear hne h1 h2 h5 h6
   go_enter Tryz.func181, Tryz.ntmps181
   go_wp2;go_ret;exact ⟨ret_int HR.out.symm, HB.out _ _⟩
end Go.Proofs.YtcnfcililiehlaaGreatDoor
namespace Go.Proofs.YtcnfcililiehlaaGreatDoor
inductive T where
 | leaf (c : CM)
 | un (o : Int) (t : T)
 | bin (o : Int) (l r : T)
def post : T -> List CM
 | .leaf c => [c]
 | .un o t => post t ++ [opC o]
 | .bin o l r => post l ++ post r ++ [opC o]
def OkT : T -> Prop
 | .leaf c => formedB c = true /\ operN c.op = 0
 | .un o t => 7 <= o /\ o <= 10 /\ OkT t
 | .bin o l r => 11 <= o /\ o <= 23 /\ OkT l /\ OkT r
theorem operN_un {o : Int} (h : 7 <= o /\ o <= 10) : operN o = 1 := by unfold operN; rw [if_neg (by omega), if_pos h]
theorem operN_bin {o : Int} (h : 11 <= o /\ o <= 23) : operN o = 2 := by unfold operN; rw [if_neg (by omega), if_neg (by omega)]
theorem formed_opC {o : Int} (h : 7 <= o /\ o <= 23) : formedB (opC o) = true := by
 unfold formedB opC;simp only;rw [if_neg (by omega), if_neg (by omega), if_neg (by omega), decide_eq_true (show 1 <= o by omega), decide_eq_true (show o <= 23 by omega)]; rfl
theorem opC_of {c : CM} (h : formedB c = true) (ho : 1 <= operN c.op) : c = opC c.op /\ 7 <= c.op := by
 have h7 : 7 <= c.op := by
  have := formed_op h;unfold operN at ho;split at ho
  ·omega
  ·omega
 refine ⟨?_, h7⟩;unfold formedB at h;rw [if_neg (by omega), if_neg (by omega), if_neg (by omega)] at h;simp at h;cases c; simp at h; simp [opC, h]
theorem run_post {t : T} (h : OkT t) (r : List CM) (v : Nat) : runB (post t ++ r) v = runB r (v + 1) := by
 induction t generalizing r v with
 | leaf c =>
  show (if formedB c = true /\ operN c.op <= v then runB r (v + 1 - operN c.op) else none) = _;rw [h.2, if_pos ⟨h.1, Nat.zero_le _⟩]; rfl
 | un o t ih =>
  show runB (post t ++ [opC o] ++ r) v = _;rw [List.append_assoc, ih h.2.2];show (if formedB (opC o) = true /\ operN o <= v + 1 then runB r (v + 1 + 1 - operN o) else none) = _;rw [operN_un ⟨h.1, h.2.1⟩, if_pos ⟨formed_opC ⟨h.1, by have := h.2.1; omega⟩, by omega⟩]; rfl
 | bin o l r' ihl ihr =>
  show runB (post l ++ post r' ++ [opC o] ++ r) v = _;rw [List.append_assoc, List.append_assoc, ihl h.2.2.1, ihr h.2.2.2];show (if formedB (opC o) = true /\ operN o <= v + 1 + 1 then runB r (v + 1 + 1 + 1 - operN o) else none) = _;rw [operN_bin ⟨h.1, h.2.1⟩, if_pos ⟨formed_opC ⟨by have := h.1; omega, h.2.1⟩, by omega⟩]; rfl
def OkAll (ts : List T) : Prop := ∀ t ∈ ts, OkT t
theorem trees_of : ∀ (cs : List CM) (ts : List T) (n : Nat), OkAll ts -> runB cs ts.length = some n -> ∃ ts', OkAll ts' /\ ts'.flatMap post = ts.flatMap post ++ cs /\ ts'.length = n := by
 intro cs
 induction cs with
 | nil => intro ts n ho hr; exact ⟨ts, ho, by simp, by simpa [runB] using hr⟩
 | cons c r ih =>
  intro ts n ho hr;unfold runB at hr;split at hr
  ·rename_i hc
   obtain ⟨hf, hle⟩ := hc;have h2 := operN_le c.op;have hcs : operN c.op = 0 \/ operN c.op = 1 \/ operN c.op = 2 := by omega
   rcases hcs with h0 | h0 | h0
   ·rw [h0] at hr;obtain ⟨ts', h1, h2, h3⟩ := ih (ts ++ [.leaf c]) n (by
     intro t ht;rcases List.mem_append.1 ht with h | h
     ·exact ho t h
     ·simp at h; subst h; exact ⟨hf, h0⟩) (by simpa using hr)
    exact ⟨ts', h1, by rw [h2]; simp [post], h3⟩
   ·obtain ⟨hc1, hc7⟩ := opC_of hf (by omega);rcases List.eq_nil_or_concat ts with rfl | ⟨ts0, a, rfl⟩
    ·simp at hle; omega
    ·rw [List.concat_eq_append] at *
     have h10 : c.op <= 10 := by
      unfold operN at h0;split at h0
      ·omega
      ·split at h0 <;> omega
     obtain ⟨ts', h1, h2, h3⟩ := ih (ts0 ++ [.un c.op a]) n (by
      intro t ht;rcases List.mem_append.1 ht with h | h
      ·exact ho t (List.mem_append_left _ h)
      ·simp at h; subst h; exact ⟨hc7, h10, ho a (by simp)⟩) (by rw [h0] at hr; simpa using hr)
     refine ⟨ts', h1, ?_, h3⟩;rw [h2];simp only [List.flatMap_append, List.flatMap_cons, List.flatMap_nil, List.append_nil, List.append_assoc, post];rw [<- hc1]; rfl
   ·obtain ⟨hc1, hc7⟩ := opC_of hf (by omega);rcases List.eq_nil_or_concat ts with rfl | ⟨ts1, b, rfl⟩
    ·simp at hle; omega
    ·rw [List.concat_eq_append] at *
     rcases List.eq_nil_or_concat ts1 with rfl | ⟨ts0, a, rfl⟩
     ·simp at hle; omega
     ·rw [List.concat_eq_append] at *
      have h10 : 11 <= c.op := by
       unfold operN at h0;split at h0
       ·omega
       ·split at h0 <;> omega
      obtain ⟨ts', h1, h2, h3⟩ := ih (ts0 ++ [.bin c.op a b]) n (by
       intro t ht;rcases List.mem_append.1 ht with h | h
       ·exact ho t (List.mem_append_left _ (List.mem_append_left _ h))
       ·simp at h; subst h; exact ⟨h10, (formed_op hf).2, ho a (by simp), ho b (by simp)⟩) (by rw [h0] at hr; simpa using hr)
      refine ⟨ts', h1, ?_, h3⟩;rw [h2];simp only [List.flatMap_append, List.flatMap_cons, List.flatMap_nil, List.append_nil, List.append_assoc, post];rw [<- hc1]; rfl
  ·cases hr
theorem right_tree {cs : List CM} (h : rightB cs = true) : ∃ t, OkT t /\ post t = cs := by
 unfold rightB at h;simp at h;obtain ⟨ts, h1, h2, h3⟩ := trees_of cs [] 1 (by intro t ht; cases ht) h.2
 match ts, h3 with
 | [t], _ => exact ⟨t, h1 t (by simp), by simpa using h2⟩
theorem tree_right {t : T} (h : OkT t) (hl : (post t).length <= 32) : rightB (post t) = true := by
 unfold rightB;have := run_post h [] 0;rw [List.append_nil] at this;rw [this, decide_eq_true hl]; rfl
end Go.Proofs.YtcnfcililiehlaaGreatDoor
namespace Go.Proofs.YtcnfcililiehlaaGreatDoor
open Go.RowKit
def Names (cs : List CM) : Prop := ∀ c ∈ cs, c.nm.length <= 9223372036854775807
set_option maxRecDepth 100000 in
set_option maxHeartbeats 2000000 in
theorem refRight_any (v : Value) (cs : List CM) (w : World) (hR : RdC w v cs) (hl : cs.length <= 4611686018427387904) (hN : Names cs) :
 Calls Tryz.prog 146 #[v] w fun e w' => e = .returned (.bool (rightB cs)) /\ Below w.heap.size w w' := by
 obtain ⟨A, c, rfl, hr⟩ := hR;have HR := Lib.hid hr; clear hr;have HNM := Lib.hid hN; clear hN;obtain ⟨n, hn⟩ : ∃ n, cs.length = n := ⟨_, rfl⟩
 have HN := Lib.hid hn;rw [hn] at hl ⊢;clear hn;have HNO : Hid (runB cs 0 = none -> rightB cs = false) := by
  intro h;unfold rightB; rw [h]; simp
 have HLO : Hid (32 < n -> rightB cs = false) := by
  intro h;unfold rightB; rw [HN.out, decide_eq_false (by omega)]; rfl
 have HYE : Hid (∀ vs, n <= 32 -> runB cs 0 = some vs -> rightB cs = ((vs : Int) == 1)) := by
  intro vs h1 h2;unfold rightB; rw [HN.out, decide_eq_true h1, h2];by_cases h : vs = 1
  ·subst h; rfl
  ·rw [int_ne (show (vs : Int) ≠ 1 by omega)]; simp [h]
 go_enter Tryz.func146, Tryz.ntmps146
 go_wp2
 go_loopw [2, 3, 4] (fun x2 vv i wr => x2 = .bool false /\ ∃ k vs : Nat, k <= n /\ k <= 32 /\ vs <= k /\ i = .int .i64 k /\ vv = .int .i64 vs /\ Hid (runB (cs.drop k) vs = runB cs 0) /\ Below w.heap.size w wr) (fun _ _ i _ => n - (intOf i).toNat)
 case atStart => exact ⟨rfl, 0, 0, by omega, by omega, by omega, rfl, rfl, rfl, Below.refl _ _⟩
 case round =>
  obtain ⟨rfl, k, vs, hk, hk32, hvs, rfl, rfl, HB, hb⟩ := hrel;have HBL := Lib.hid hb;by_cases hkn : k < n
  ·obtain ⟨b, o, rfl, d0, d1, d2⟩ := HR.out k (by rw [HN.out]; exact hkn);have hrun := run_at (cs := cs) (k := k) (v := vs) (by rw [HN.out]; exact hkn);rw [HB.out] at hrun;have hnm := HNM.out (cs[k]'(by rw [HN.out]; exact hkn)) (List.getElem_mem _);obtain ⟨cc, hcc⟩ : ∃ cc, cs[k]'(by rw [HN.out]; exact hkn) = cc := ⟨_, rfl⟩
   rw [hcc] at d0 d1 d2 hrun hnm;have e0 := (hb.cell (cell_lt d0)).trans d0;have e1 := (hb.cell (cell_lt d1)).trans d1;have e2 := (hb.cell (cell_lt d2)).trans d2;have hon := operN_le cc.op;obtain ⟨X, hX⟩ : ∃ X : ByteArray, bstr cc.nm = .string X := ⟨_, rfl⟩
   have hfm := fun W => refOperands_any cc W hnm
   rw [hX] at e2 hfm;have HFM := Lib.hid hfm;have HRUN := Lib.hid hrun;clear d0 d1 d2 hcc hrun hb hX hfm hnm;cases hf : formedB cc
   ·have HFF := Lib.hid (opsR_no hf);have HE := Lib.hid (HNO.out (by rw [HRUN.out, hf, if_neg (by simp)]));clear hf
    go_wp2_with fail
    refine (HFM.out _).mono ?_;rintro e w2 ⟨rfl, hb2⟩;have HB2 := Lib.hid hb2; clear hb2;rw [HFF.out];go_wp2;go_ret;exact ⟨ret_bool HE.out.symm, HBL.out.trans (HB2.out.mono HBL.out.size)⟩
   ·have HFF := Lib.hid (opsR_yes hf);by_cases hov : operN cc.op <= vs
    ·have hov' : decide ((vs : Int) < (operN cc.op : Int)) = false := decide_eq_false (by omega);have hov2 : decide (vs < operN cc.op) = false := decide_eq_false (by omega);have hneg : decide ((operN cc.op : Int) < 0) = false := decide_eq_false (by omega);by_cases h32 : k < 32
     ·have hE : runB (cs.drop (k + 1)) (vs + 1 - operN cc.op) = runB cs 0 := by rw [HRUN.out, hf, if_pos ⟨rfl, hov⟩]
      have HE := Lib.hid hE;clear hE hf;have h32' : decide ((32 : Int) <= (k : Int)) = false := decide_eq_false (by omega);have h32'' : decide (32 <= k) = false := decide_eq_false (by omega)
      go_wp2_with fail
      refine (HFM.out _).mono ?_;rintro e w2 ⟨rfl, hb2⟩;have HB2 := Lib.hid hb2; clear hb2;rw [HFF.out];go_wp2
      go_roundw
      case rel => exact ⟨rfl, k + 1, vs + 1 - operN cc.op, by omega, by omega, by omega, by go_num, by congr 1; omega, HE, HBL.out.trans (HB2.out.mono HBL.out.size)⟩
      case measure => simp [intOf]; omega
     ·have HE := Lib.hid (HLO.out (by omega));have h32' : (32 : Int) <= (k : Int) := by omega
      clear hf h32
      go_wp2_with fail
      refine (HFM.out _).mono ?_;rintro e w2 ⟨rfl, hb2⟩;have HB2 := Lib.hid hb2; clear hb2;rw [HFF.out];go_wp2;go_ret;exact ⟨ret_bool HE.out.symm, HBL.out.trans (HB2.out.mono HBL.out.size)⟩
    ·have HE := Lib.hid (HNO.out (by rw [HRUN.out, hf, if_neg (by simp; omega)]));have hov' : (vs : Int) < (operN cc.op : Int) := by omega
     have hneg : decide ((operN cc.op : Int) < 0) = false := decide_eq_false (by omega);clear hf
     go_wp2_with fail
     refine (HFM.out _).mono ?_;rintro e w2 ⟨rfl, hb2⟩;have HB2 := Lib.hid hb2; clear hb2;rw [HFF.out];go_wp2;go_ret;exact ⟨ret_bool HE.out.symm, HBL.out.trans (HB2.out.mono HBL.out.size)⟩
  ·have hE : runB cs 0 = some vs := by
    rw [<- HB.out, List.drop_of_length_le (by rw [HN.out]; omega)]; rfl
   have HE := Lib.hid (HYE.out vs (by omega) hE);clear hE;go_wp2;go_ret;exact ⟨ret_bool HE.out.symm, HBL.out⟩
end Go.Proofs.YtcnfcililiehlaaGreatDoor
