/- Own texts, joined: Uj, Uk, Oy. -/
import Derived.Test.YtcnfcililiehlaaGreatDoorR1
import Derived.Test.YtcnfcililiehlaaGreatDoorR12
namespace Go.Proofs.YtcnfcililiehlaaGreatDoor.Tr
open Go.RowKit Go.Shelf
attribute [local go_sem] Oper.semAt_some
def RdZ (w : World) (v : Value) (l : List Int) : Prop := Inn w 1 v l.length (l.map fun i => Value.int .i64 i)
theorem RdZ.at_ {w : World} {A : Option Addr} {m c : Nat} {l : List Int} (h : RdZ w (.slice A m c) l) {k : Nat} (hk : k < l.length) : ∃ b o, A = some ⟨b, o, none⟩ /\ b < w.heap.size /\ w.cell? ⟨b, o + k, none⟩ = some (.int .i64 l[k]) := by
 rcases h with ⟨_, h1, _⟩ | ⟨ad, c', e, hl, hc⟩
 ·omega
 ·obtain ⟨b, o, rfl, hlt, hc⟩ := hc (by omega);simp only [Value.slice.injEq] at e;refine ⟨b, o, e.1, hlt, hc k _ ?_⟩;rw [List.getElem?_map, List.getElem?_eq_getElem hk]; rfl
theorem rdZ_new {w : World} {D : Nat} (hD : w.heap.size = D) (l : List Int) (_ : 0 < l.length) : RdZ (w.alloc (.cells (l.map fun i => Value.int .i64 i).toArray 3)) (.slice (some ⟨D, 0, none⟩) l.length l.length) l := by
 subst hD;refine Or.inr ⟨⟨w.heap.size, 0, none⟩, _, rfl, by simp, fun _ => ⟨w.heap.size, 0, rfl, by simp, fun j u hu => ?_⟩⟩;have := heap_alloc_new w (.cells (l.map fun i => Value.int .i64 i).toArray 3);simp only [World.cell?, Nat.zero_add];rw [this]
 simpa using hu
def HasP (xs : List SM) (i : Int) : Prop := 0 <= i /\ i < xs.length /\ RightP (dp xs) (kp xs) xs.length
noncomputable instance {xs : List SM} {i : Int} : Decidable (HasP xs i) := Classical.propDecidable _
def HoldP (xs : List SM) (l : List Int) : Prop := (∀ i ∈ l, 0 <= i /\ i < xs.length) /\ RightP (dp xs) (kp xs) xs.length
noncomputable instance {xs : List SM} {l : List Int} : Decidable (HoldP xs l) := Classical.propDecidable _
theorem hold_one {xs : List SM} {i : Int} : HoldP xs [i] ↔ HasP xs i := by
 unfold HoldP HasP;simp [and_assoc]
theorem hold_two {xs : List SM} {i j : Int} : HoldP xs [i, j] ↔ HasP xs i /\ HasP xs j := by
 unfold HoldP HasP;constructor
 ·rintro ⟨h, hr⟩;exact ⟨⟨(h i (by simp)).1, (h i (by simp)).2, hr⟩, (h j (by simp)).1, (h j (by simp)).2, hr⟩
 ·rintro ⟨⟨a, b, c⟩, d, e, _⟩;refine ⟨fun k hk => ?_, c⟩;simp at hk;rcases hk with rfl | rfl
  ·exact ⟨a, b⟩
  ·exact ⟨d, e⟩
set_option maxHeartbeats 2000000 in
theorem hold_any (v pv : Value) (xs : List SM) (l : List Int) (w : World) (hR : RdT w v xs) (hZ : RdZ w pv l) (hl : xs.length <= 4611686018427387904) (hll : l.length <= 4611686018427387904) :
 Calls Tryz.prog 90 #[v, pv] w fun e w' => e = .returned (.bool (decide (HoldP xs l))) /\ Below w.heap.size w w' := by
 obtain ⟨A, c, rfl⟩ := hR.form;obtain ⟨B, d, rfl⟩ := Inn.form hZ;have HRT := Lib.hid (fun W (h : RdT W _ xs) => right_any (.slice A xs.length c) xs W h hl);obtain ⟨n, hn⟩ : ∃ n, xs.length = n := ⟨_, rfl⟩
 obtain ⟨g, hg⟩ : ∃ g, l.length = g := ⟨_, rfl⟩
 have HR := Lib.hid hR; have HZ := Lib.hid hZ; have HN := Lib.hid hn; have HG := Lib.hid hg;rw [hn] at hl HR HRT;rw [hn];rw [hg] at hll HZ ⊢;clear hR hZ hn hg
 go_enter Tryz.func90, Tryz.ntmps90
 go_wp2
 go_loopw [9] (fun x9 wr => wr = w /\ ∃ k : Nat, k <= g /\ x9 = .int .i64 k /\ Hid (∀ j (h : j < l.length), j < k -> 0 <= l[j] /\ l[j] < n)) (fun x _ => g - (intOf x).toNat)
 case atStart => exact ⟨rfl, 0, by omega, rfl, fun j _ h => by omega⟩
 case round =>
  obtain ⟨rfl, k, hk, rfl, HK⟩ := hrel;by_cases hkg : k < g
  ·have hkl : k < l.length := by rw [HG.out]; exact hkg
   obtain ⟨b, o, rfl, _, cz⟩ := HZ.out.at_ hkl;by_cases hok : 0 <= l[k] /\ l[k] < n
   ·have HS : Hid (∀ j (h : j < l.length), j < k + 1 -> 0 <= l[j] /\ l[j] < n) := fun j h hj => by
     by_cases e : j = k
     ·subst e; exact hok
     ·exact HK.out j h (by omega)
    obtain ⟨z1, z2⟩ := hok;clear HK;generalize l[k] = z at *
    go_wp2
    go_roundw
    case rel => exact ⟨trivial, k + 1, by omega, by go_num, HS.out⟩
    case measure => simp [intOf] <;> omega
   ·have hf : decide (HoldP xs l) = false := decide_eq_false fun h => hok (by have := h.1 _ (List.getElem_mem hkl); rw [HN.out] at this; exact this)
    have HF := Lib.hid hf;clear hf HK;generalize l[k] = z at *
    by_cases hz : z < 0
    ·clear hok;go_wp2;go_ret;exact ⟨ret_bool HF.out.symm, Below.refl _ _⟩
    ·have hz2 : (n : Int) <= z := by omega
     clear hok;go_wp2;go_ret;exact ⟨ret_bool HF.out.symm, Below.refl _ _⟩
  ·obtain rfl : g = k := by omega
   have hf : decide (HoldP xs l) = decide (RightP (dp xs) (kp xs) n) := by
    have ha : ∀ i ∈ l, 0 <= i /\ i < (xs.length : Int) := fun i hi => by
     obtain ⟨j, hj, rfl⟩ := List.getElem_of_mem hi;rw [HN.out]; exact HK.out j hj (by rw [HG.out] at hj; exact hj)
    by_cases hr : RightP (dp xs) (kp xs) n
    ·rw [decide_eq_true hr]; exact decide_eq_true ⟨ha, by rw [HN.out]; exact hr⟩
    ·rw [decide_eq_false hr]; exact decide_eq_false fun h => hr (by have := h.2; rw [HN.out] at this; exact this)
   have HF := Lib.hid hf;have HC := Lib.hid (HRT.out _ HR.out);clear hf HK
   go_wp2_with (fail)
   refine HC.out.mono ?_;rintro e w1 ⟨rfl, hb⟩;have HB := Lib.hid hb; clear hb;obtain ⟨q, hq⟩ : ∃ q, q = decide (RightP (dp xs) (kp xs) n) := ⟨_, rfl⟩
   have HQ := Lib.hid hq;rw [<- hq];clear hq;go_wp2;go_ret;exact ⟨ret_bool (by rw [HQ.out, HF.out]), HB.out⟩
theorem own_lower {w : World} {b0 b1 : Nat} {e : TypeId} {size n : Nat} {v : Value} {xs : List Value} (h : w.ownsRow b1 e size v n xs) (hb : b0 <= b1) : w.ownsRow b0 e size v n xs := by
 obtain ⟨h1, h2⟩ := h;refine ⟨h1, ?_⟩;rcases h2 with h2 | ⟨g, cap, cur, e1, e2, e3⟩
 ·exact Or.inl h2
 ·exact Or.inr ⟨g, cap, cur, e1, Nat.le_trans hb e2, e3⟩
structure KidI (w : World) (B5 : Nat) {n : Nat} (pre : List (Pl n)) (W : World) : Prop where
 out : ∃ v, Boxed W B5 29 v /\ W.ownsRow (B5 + 1 + 1 + 1) 3 1 v pre.length (kvN (pre.map (·.1)))
 below : Below w.heap.size w W
 size : B5 + 1 + 1 + 1 <= W.heap.size
theorem KidI.grown {w : World} {B5 n : Nat} {pre : List (Pl n)} {W W' : World} {row : Option Nat} (h : KidI w B5 pre W) (hw : w.heap.size <= B5) (hg : W.grownBy W' row) (hr : ∀ r, row = some r -> B5 + 1 + 1 + 1 <= r /\ ∃ o : Obj, W.heap[r]? = some o /\ o.isCells = false) : KidI w B5 pre W' := by
 obtain ⟨v, hv, hrow⟩ := h.out;refine ⟨⟨v, hv.kept hg (fun e => by have := (hr _ e.symm).1; omega), hrow.kept hg ?_⟩, h.below.grown hg h.below.size (fun k hk => by have := (hr k hk).1; omega), Nat.le_trans h.size hg.size⟩;rcases hrow.2 with ⟨rfl, _⟩ | ⟨g, cap, cur, rfl, _, hgb, _⟩
 ·exact .inl rfl
 ·refine .inr fun e' => ?_
  obtain ⟨_, o, ho, hc⟩ := hr g (by simpa [Value.ownBlock] using e'.symm);rw [hgb] at ho; cases ho; cases hc
end Go.Proofs.YtcnfcililiehlaaGreatDoor.Tr
namespace Go.Proofs.YtcnfcililiehlaaGreatDoor.Tr
open Go.RowKit
set_option maxHeartbeats 1000000 in
theorem parent_yes (v : Value) (xs : List SM) (i : Nat) (w : World) (hR : RdT w v xs) (hi : i < xs.length) (hP : RightP (dp xs) (kp xs) xs.length) :
 Calls Tryz.prog 62 #[v, .int .i64 i] w fun e w' => e = .returned (.int .i64 (par (dp xs) i)) /\ Below w.heap.size w w' := by
 obtain ⟨A, c, rfl⟩ := hR.form;have hl := hP.le;have HB0 : Hid (Below w.heap.size w (w.alloc (.cells #[.int .i64 i] 3))) := (Below.refl _ _).alloc (Nat.le_refl _) _;have hc := hold_any (.slice A xs.length c) _ xs [(i : Int)] _ (hR.below HB0.out) (rdZ_new rfl [(i : Int)] (by simp)) (by omega) (by simp);rw [decide_eq_true (hold_one.2 ⟨by omega, by omega, hP⟩)] at hc;have HC := Lib.hid hc;have HCC := Lib.hid (fun W (h : RdT W _ xs) => parent_any (.slice A xs.length c) xs i W h hi (by omega));have HR := Lib.hid hR;clear hc hR hP
 go_enter Tryz.func62, Tryz.ntmps62
 go_wp2_with (fail)
 refine HC.out.mono ?_;rintro e w1 ⟨rfl, hb⟩;have HB1 := Lib.hid (HB0.out.trans (hb.mono HB0.out.size)); clear hb
 go_wp2_with (fail)
 refine (HCC.out _ (HR.out.below HB1.out)).mono ?_;rintro e w2 ⟨rfl, q, rfl⟩;go_wp2;go_ret;exact ⟨rfl, below_drewN HB1.out q⟩
set_option maxHeartbeats 1000000 in
theorem within_yes (v : Value) (xs : List SM) (i j : Nat) (w : World) (hR : RdT w v xs) (hi : i < xs.length) (hj : j < xs.length) (hP : RightP (dp xs) (kp xs) xs.length) :
 Calls Tryz.prog 208 #[v, .int .i64 i, .int .i64 j] w fun e w' => e = .returned (.bool (decide (wi (dp xs) i j))) /\ Below w.heap.size w w' := by
 obtain ⟨A, c, rfl⟩ := hR.form;have hl := hP.le;have HB0 : Hid (Below w.heap.size w (w.alloc (.cells #[.int .i64 i, .int .i64 j] 3))) := (Below.refl _ _).alloc (Nat.le_refl _) _;have hc := hold_any (.slice A xs.length c) _ xs [(i : Int), (j : Int)] _ (hR.below HB0.out) (rdZ_new rfl [(i : Int), (j : Int)] (by simp)) (by omega) (by simp);rw [decide_eq_true (hold_two.2 ⟨⟨by omega, by omega, hP⟩, by omega, by omega, hP⟩)] at hc;have HC := Lib.hid hc;have HCC := Lib.hid (fun W (h : RdT W _ xs) => within_any (.slice A xs.length c) xs i j W h hi hj (by omega));have HR := Lib.hid hR;clear hc hR hP
 go_enter Tryz.func208, Tryz.ntmps208
 go_wp2_with (fail)
 refine HC.out.mono ?_;rintro e w1 ⟨rfl, hb⟩;have HB1 := Lib.hid (HB0.out.trans (hb.mono HB0.out.size)); clear hb
 go_wp2_with (fail)
 refine (HCC.out _ (HR.out.below HB1.out)).mono ?_;rintro e w2 ⟨rfl, q, rfl⟩;go_wp2;go_ret;exact ⟨rfl, below_drewN HB1.out q⟩
set_option maxHeartbeats 2000000 in
theorem domain_yes (v : Value) (xs : List SM) (i j : Nat) (w : World) (hR : RdT w v xs) (hi : i < xs.length) (hj : j < xs.length) (hP : RightP (dp xs) (kp xs) xs.length) :
 Calls Tryz.prog 214 #[v, .int .i64 i, .int .i64 j] w fun e w' => e = .returned (.int .i64 (dom (dp xs) (kp xs) i j)) /\ Below w.heap.size w w' := by
 obtain ⟨A, c, rfl⟩ := hR.form;have hl := hP.le;have HN := Lib.hid hP.nst;have HB0 : Hid (Below w.heap.size w (w.alloc (.cells #[.int .i64 i, .int .i64 j] 3))) := (Below.refl _ _).alloc (Nat.le_refl _) _;have hc := hold_any (.slice A xs.length c) _ xs [(i : Int), (j : Int)] _ (hR.below HB0.out) (rdZ_new rfl [(i : Int), (j : Int)] (by simp)) (by omega) (by simp);rw [decide_eq_true (hold_two.2 ⟨⟨by omega, by omega, hP⟩, by omega, by omega, hP⟩)] at hc;have HC := Lib.hid hc;have HPA := Lib.hid (fun k W (hk : k < xs.length) (h : RdT W _ xs) => parent_any (.slice A xs.length c) xs k W h hk (by omega));have HWI := Lib.hid (fun k W (hk : k < xs.length) (h : RdT W _ xs) => within_any (.slice A xs.length c) xs k j W h hk hj (by omega));obtain ⟨b, o, rfl, hb0, hcc⟩ := hR.base (by omega);obtain ⟨n, hn⟩ : ∃ n, xs.length = n := ⟨_, rfl⟩
 have HCL : Hid (∀ m, m < n -> w.cell? ⟨b, o + m * 6 + 1, none⟩ = some (.int .i64 (kp xs m)) /\ w.cell? ⟨b, o + m * 6 + 2, none⟩ = some (.int .i64 (dp xs m))) := fun m hm => ⟨(hcc m (by omega)).2.1, (hcc m (by omega)).2.2.1⟩
 have HR := Lib.hid hR; have HBL := Lib.hid hb0;rw [hn] at hi hj hl HN HC HPA HWI HR ⊢;clear hc hR hP hn hcc hb0
 go_enter Tryz.func214, Tryz.ntmps214
 go_wp2_with (fail)
 refine HC.out.mono ?_;rintro e w1 ⟨rfl, hb⟩;have HB1 := Lib.hid (HB0.out.trans (hb.mono HB0.out.size)); clear hb;have HC1 : Hid (∀ m, m < n -> w1.cell? ⟨b, o + m * 6 + 1, none⟩ = some (.int .i64 (kp xs m)) /\ w1.cell? ⟨b, o + m * 6 + 2, none⟩ = some (.int .i64 (dp xs m))) := fun m hm => ⟨(HB1.out.cell HBL.out).trans (HCL.out m hm).1, (HB1.out.cell HBL.out).trans (HCL.out m hm).2⟩
 have HR1 := Lib.hid (HR.out.below HB1.out);go_wp2
 go_loopw [7] (fun x7 wr => ∃ q : Nat, wr = w1.drewN q /\ ((x7 = .int .i64 (-1) /\ Hid (dom (dp xs) (kp xs) i j = -1)) \/ ∃ k : Nat, k < n /\ x7 = .int .i64 k /\ Hid (dom (dp xs) (kp xs) k j = dom (dp xs) (kp xs) i j))) (fun x _ => (intOf x + 1).toNat)
 case atStart => exact ⟨0, rfl, Or.inr ⟨i, hi, rfl, rfl⟩⟩
 case round =>
  obtain ⟨q, rfl, ⟨hx, HF⟩ | ⟨k, hk, hx, HK⟩⟩ := hrel
  ·subst hx;go_wp2;go_ret;exact ⟨ret_int HF.out.symm, below_drewN HB1.out q⟩
  ·subst hx;have ck := (HC1.out k hk).1;have hne : ((k : Int) != -1) = true := bne_iff_ne.2 (by omega);have hnx : one (dp xs) (kp xs) j k = false -> (par (dp xs) k = -1 /\ dom (dp xs) (kp xs) i j = -1) \/ ∃ p : Nat, par (dp xs) k = p /\ p < k /\ dom (dp xs) (kp xs) p j = dom (dp xs) (kp xs) i j := by
    intro ho;rcases HN.out.nearest hk with ⟨h, _⟩ | ⟨p, h, h1, _⟩
    ·exact Or.inl ⟨h, by rw [<- HK.out]; exact HN.out.dom_none hk ho h⟩
    ·exact Or.inr ⟨p, h, h1, by rw [<- HK.out]; exact (HN.out.dom_par hk ho h).symm⟩
   by_cases h2 : kp xs k = 2
   ·by_cases hw : wi (dp xs) k j
    ·have hh : dom (dp xs) (kp xs) k j = k := dom_here (decide_eq_true ⟨h2, hw⟩);have HH := Lib.hid (hh.symm.trans HK.out);have HW := Lib.hid (decide_eq_true hw);rw [h2] at ck;clear hh hnx h2 hw
     go_wp2_with (fail)
     refine (HWI.out k _ hk (HR1.out.drew q)).mono ?_;rintro e w2 ⟨rfl, q2, rfl⟩;rw [HW.out];go_wp2;go_ret;exact ⟨ret_int HH.out, below_drewN HB1.out (q + q2)⟩
    ·have HNX := Lib.hid (hnx (decide_eq_false (fun h => hw h.2)));have HW := Lib.hid (decide_eq_false hw);rw [h2] at ck;clear hnx h2 hw
     go_wp2_with (fail)
     refine (HWI.out k _ hk (HR1.out.drew q)).mono ?_;rintro e w2 ⟨rfl, q2, rfl⟩;rw [HW.out]
     go_wp2_with (fail)
     refine (HPA.out k _ hk (HR1.out.drew (q + q2))).mono ?_;rintro e w2 ⟨rfl, q3, rfl⟩;rcases HNX.out with ⟨h, hf⟩ | ⟨p, h, hpk, hf⟩
     ·rw [h];have HF := Lib.hid hf;clear hf h HNX;go_wp2
      go_roundw
      case rel => exact ⟨q + q2 + q3, rfl, Or.inl ⟨rfl, HF.out⟩⟩
      case measure => simp [intOf] <;> omega
     ·rw [h];have HF := Lib.hid hf;clear hf h HNX;go_wp2
      go_roundw
      case rel => exact ⟨q + q2 + q3, rfl, Or.inr ⟨p, by omega, rfl, HF.out⟩⟩
      case measure => simp [intOf] <;> omega
   ·have HNX := Lib.hid (hnx (decide_eq_false (fun h => h2 h.1)));have hk2 := int_ne h2;clear hnx h2
    go_wp2_with (fail)
    refine (HPA.out k _ hk (HR1.out.drew q)).mono ?_;rintro e w2 ⟨rfl, q3, rfl⟩;rcases HNX.out with ⟨h, hf⟩ | ⟨p, h, hpk, hf⟩
    ·rw [h];have HF := Lib.hid hf;clear hf h HNX;go_wp2
     go_roundw
     case rel => exact ⟨q + q3, rfl, Or.inl ⟨rfl, HF.out⟩⟩
     case measure => simp [intOf] <;> omega
    ·rw [h];have HF := Lib.hid hf;clear hf h HNX;go_wp2
     go_roundw
     case rel => exact ⟨q + q3, rfl, Or.inr ⟨p, by omega, rfl, HF.out⟩⟩
     case measure => simp [intOf] <;> omega
end Go.Proofs.YtcnfcililiehlaaGreatDoor.Tr
namespace Go.Proofs.YtcnfcililiehlaaGreatDoor
open Go Go.RowKit
namespace Oy
open Ow (beforeB dstAt looksB shapeB Shape acts vals vals_succ vals_at valAt valAt_put before_iff acts_size acts_at run_alike oper_alike countP_lt NoWay shape_of)
abbrev RelD := List Value -> Value -> World -> Prop
def eqD (x : Value) : RelD := fun _ v _ => v = x
section
variable (P : Program) (ops : Array Oper) (Q : Exit -> Act -> World -> Prop) (md : Region.Mode) (Rs : List RelD) (par : List (List Nat))
def parV (f : Nat -> Value) (i : Nat) : List Value := (par.getD i []).map f
def relD (i : Nat) : RelD := (Rs[i]?).getD fun _ _ _ => True
def Duty (w0 : World) (i : Nat) (o : Oper) (a : Act) (vs : List Value) : Prop :=
 ∀ w, Below w0.heap.size w0 w -> (∀ j, beforeB md ops j i = true -> relD Rs j (parV par (fun k => vs.getD k undef) j) (vs.getD j undef) w) ->
  ∀ K : Act -> World -> Prop, (∀ v w', Below w.heap.size w w' -> relD Rs i (parV par (fun k => vs.getD k undef) i) v w' -> K (a.put o.dst v) w') ->
   if Region.wanted o (yielded ops a.tmps) = true then Oper.wp P o a w K NoWay else K (a.put o.dst undef) w
def Walk (w0 : World) : List Oper -> Nat -> Act -> List Value -> Prop
 | [], _, a, vs => ∀ w, Below w0.heap.size w0 w -> (∀ j, j < ops.size -> relD Rs j (parV par (fun k => vs.getD k undef) j) (vs.getD j undef) w) -> Q .normal a w
 | o :: r, i, a, vs => Duty P ops md Rs par w0 i o a vs /\ ∀ v, Walk w0 r (i + 1) (a.put o.dst v) (vs ++ [v])
end
section
variable {P : Program} {ops : Array Oper} {Q : Exit -> Act -> World -> Prop} {md : Region.Mode} {Rs : List RelD} {par : List (List Nat)} {w0 : World}
theorem walk_acts (a0 : Act) (vs : Nat -> Value) : ∀ (l : List Oper) (i : Nat), (∀ j, l[j]? = ops[i + j]?) -> Walk P ops Q md Rs par w0 l i (acts ops a0 vs i) (vals vs i) ->
 (∀ j o, i <= j -> ops[j]? = some o -> Duty P ops md Rs par w0 j o (acts ops a0 vs j) (vals vs j)) /\ (i <= ops.size -> Walk P ops Q md Rs par w0 [] ops.size (acts ops a0 vs ops.size) (vals vs ops.size)) := by
 intro l
 induction l with
 | nil =>
  intro i hl h;have hs : ops.size <= i := by
   have := hl 0;simp at this;exact this
  refine ⟨fun j o hj ho => ?_, fun hi => ?_⟩
  ·have := (Array.getElem?_eq_some_iff.1 ho).1; omega
  ·have : i = ops.size := by omega
   subst this;exact h
 | cons o r ih =>
  intro i hl h;have h0 : ops[i]? = some o := by have := hl 0; simpa using this.symm
  have hd : dstAt ops i = o.dst := by simp [dstAt, h0]
  have hw := h.2 (vs i);rw [<- hd, <- vals_succ] at hw;obtain ⟨h1, h2⟩ := ih (i + 1) (fun j => by have := hl (j + 1); simp at this; rw [this]; congr 1; omega) hw;refine ⟨fun j p hj hp => ?_, fun _ => h2 (by have := (Array.getElem?_eq_some_iff.1 h0).1; omega)⟩;by_cases hji : j = i
  ·subst hji;obtain rfl : o = p := by rw [h0] at hp; exact Option.some.inj hp
   exact h.1
  ·exact h1 j p (by omega) hp
structure Inv (P : Program) (ops : Array Oper) (md : Region.Mode) (Rs : List RelD) (par : List (List Nat)) (eats : List (Option Nat)) (w0 : World) (a0 : Act) (L : Nat -> Bool) (a : Act) (w : World) : Prop where
 inv : Ow.Inv P ops md [] [] eats w0.heap.size w0 a0 L a w
 fact : ∀ i, i < ops.size -> L i = true -> relD Rs i (parV par (valAt ops a) i) (valAt ops a i) w
theorem par_same {f g : Nat -> Value} {i : Nat} (h : ∀ p, p ∈ par.getD i [] -> f p = g p) : parV par f i = parV par g i := by
 unfold parV;exact List.map_congr_left h
theorem any_quiet {n : Nat} {eats : List (Option Nat)} (he : ∀ i, Ow.eatsAt eats i = none) (S : Shape md ops [] eats n) (hK : ∀ i, i < ops.size -> ∀ ps v w w', relD Rs i ps v w -> Below w.heap.size w w' -> relD Rs i ps v w') (hP : ∀ i p, i < ops.size -> p ∈ par.getD i [] -> beforeB md ops p i = true) {a0 : Act} (hn : a0.tmps.size = n)
 (hW : Walk P ops Q md Rs par w0 ops.toList 0 a0 []) : ∀ (fuel : Nat) (listed : Array Bool) (a : Act) (w : World), listed.size = ops.size -> (List.range ops.size).countP (fun i => !listed.getD i false) <= fuel -> w0.heap.size <= w.heap.size ->
 Inv P ops md Rs par eats w0 a0 (fun i => listed.getD i false) a w -> wpAny P md ops Q fuel listed a w := by
 have hWv : ∀ vs : Nat -> Value, (∀ j o, ops[j]? = some o -> Duty P ops md Rs par w0 j o (acts ops a0 vs j) (vals vs j)) /\ Walk P ops Q md Rs par w0 [] ops.size (acts ops a0 vs ops.size) (vals vs ops.size) := by
  intro vs;obtain ⟨h1, h2⟩ := walk_acts a0 vs ops.toList 0 (by simp) hW;exact ⟨fun j o ho => h1 j o (Nat.zero_le _) ho, h2 (Nat.zero_le _)⟩
 have fin : ∀ (listed : Array Bool) (a : Act) (w : World), listed.size = ops.size -> Inv P ops md Rs par eats w0 a0 (fun i => listed.getD i false) a w -> Region.ready md ops listed = [] -> Q .normal a w := by
  intro listed a w hls I hr;have all : ∀ i, i < ops.size -> listed.getD i false = true := by
   intro i
   induction i using Nat.strongRecOn with
   | _ i ih =>
    intro hi;cases hli : listed.getD i false with
    | true => rfl
    | false =>
     have : i ∈ Region.ready md ops listed := by
      rw [mem_ready];refine ⟨by rw [<- hli]; simp [Array.getD, hls, hi], ops[i], by simp [hi], fun e he hb => ?_⟩;have hbf := S.deps i ops[i] (by simp [hi]) e he hb;exact ih _ (S.back _ _ hbf) (by have := S.back _ _ hbf; omega)
     rw [hr] at this; cases this
  obtain ⟨_, h2⟩ := hWv (valAt ops a);have hact : acts ops a0 (valAt ops a) ops.size = a := by
   obtain ⟨s1, s2⟩ := acts_size (ops := ops) a0 (valAt ops a) ops.size;have ht : (acts ops a0 (valAt ops a) ops.size).tmps = a.tmps := by
    apply Array.ext_getElem?;intro d;obtain ⟨k1, k2⟩ := acts_at S a0 hn (valAt ops a) d ops.size (Nat.le_refl _);by_cases hj : ∃ j, j < ops.size /\ dstAt ops j = some d
    ·obtain ⟨j, hj, hjd⟩ := hj;rw [k1 j hj hjd];obtain ⟨e, he', hen⟩ := S.dst j hj;obtain rfl : e = d := by rw [hjd] at he'; exact (Option.some.inj he').symm
     unfold valAt;rw [hjd];have : e < a.tmps.size := by rw [I.inv.size, hn]; exact hen
     simp [Array.getD, this]
    ·rw [k2 (fun k hk hkd => hj ⟨k, hk, hkd⟩)];exact (I.inv.rest d (fun k hk hkd => absurd ⟨k, hk, hkd⟩ hj)).symm
   have hdf := s2.trans I.inv.defers.symm;generalize acts ops a0 (valAt ops a) ops.size = b at *
   obtain ⟨bt, bd⟩ := b;obtain ⟨at', ad⟩ := a;simp at ht hdf;rw [ht, hdf]
  have := h2 w I.inv.below;rw [hact] at this;refine this (fun j hj => ?_);rw [vals_at _ hj, par_same (g := valAt ops a) (fun p hp => vals_at _ (by have := S.back _ _ (hP j p hj hp); omega))];exact I.fact j hj (all j hj)
 intro fuel
 induction fuel with
 | zero =>
  intro listed a w hls hc hb I;have hr : Region.ready md ops listed = [] := by
   cases h : Region.ready md ops listed with
   | nil => rfl
   | cons i r =>
    exfalso;have hi : i ∈ Region.ready md ops listed := by rw [h]; simp
    obtain ⟨h0, o, ho, _⟩ := mem_ready.1 hi;have his := (Array.getElem?_eq_some_iff.1 ho).1;have : 0 < (List.range ops.size).countP (fun i => !listed.getD i false) := List.countP_pos_iff.2 ⟨i, List.mem_range.2 his, by
     rw [show listed.getD i false = listed.getD i true by simp [Array.getD, hls, his], h0]; rfl⟩
    omega
  exact ⟨hr, fin listed a w hls I hr⟩
 | succ fuel ih =>
  intro listed a w hls hc hb I;refine ⟨fin listed a w hls I, fun i hi => ?_⟩;obtain ⟨h0, o, ho, hall⟩ := mem_ready.1 hi;have his := (Array.getElem?_eq_some_iff.1 ho).1;have hL : listed.getD i false = false := by rw [show listed.getD i false = listed.getD i true by simp [Array.getD, hls, his], h0]
  have hdep : ∀ j, beforeB md ops j i = true -> listed.getD j false = true := by
   intro j hj;obtain ⟨o', ho', e, he, hbd, rfl⟩ := before_iff.1 hj;obtain rfl : o = o' := by rw [ho] at ho'; exact Option.some.inj ho'
   exact hall e he hbd
  have hds : o.dst = dstAt ops i := by simp [dstAt, ho]
  obtain ⟨d, hd, hdn⟩ := S.dst i his;have hag := I.inv.agrees S hn his hL hdep;obtain ⟨hex, hwt⟩ := run_alike (ops := ops) (o := o) (S.sel i o · · ho) (a := a) (b := acts ops a0 (valAt ops a) i) (fun d hd => hag d (by unfold looksB; rw [ho]; simpa using hd));have hval : ∀ j, beforeB md ops j i = true -> (vals (valAt ops a) i).getD j undef = valAt ops a j := fun j hj => vals_at _ (S.back _ _ hj)
  have hpar : parV par (fun k => (vals (valAt ops a) i).getD k undef) i = parV par (valAt ops a) i := par_same (fun p hp => hval p (hP i p his hp));have hnext : ∀ v w', Below w.heap.size w w' -> relD Rs i (parV par (fun k => (vals (valAt ops a) i).getD k undef) i) v w' -> wpAny P md ops Q fuel (listed.setIfInBounds i true) (a.put o.dst v) w' := by
   intro v w' hbl hr;rw [hpar] at hr;have hgr : w.grownBy w' (Ow.rowOf ops eats a i) := by
    unfold Ow.rowOf;rw [he i];exact ⟨hbl.os, hbl.tape, hbl.output, hbl.size, fun k hk _ => hbl.block k hk⟩
   obtain ⟨I', hb'⟩ := I.inv.step S (fun j _ => by intro v w w' row _ _ _ _; simp [Ow.rel]) hn hb his hL hdep (v := v) (w' := w') ⟨by simp [Ow.rel], hgr, by simp⟩;obtain ⟨hvi, hvj⟩ := valAt_put S (I.inv.size.trans hn) his v;rw [hds];refine ih _ _ _ (by simp [hls]) ?_ hb' ?_
   ·have : (List.range ops.size).countP (fun j => !(listed.setIfInBounds i true).getD j false) < (List.range ops.size).countP (fun j => !listed.getD j false) := by
     refine countP_lt _ i (List.mem_range.2 his) (by simp [hL]) (by simp [Array.getD, hls, his]) (fun j hj h => ?_);by_cases hji : i = j
     ·subst hji; simp [Array.getD, hls, his] at h
     ·simpa [Array.getD_eq_getD_getElem?, Array.getElem?_setIfInBounds_ne hji] using h
    omega
   ·have hfun : (fun j => (listed.setIfInBounds i true).getD j false) = fun j => if j = i then true else listed.getD j false := by
     funext j
     by_cases hji : j = i
     ·subst hji; simp [Array.getD, hls, his]
     ·simp [Array.getD_eq_getD_getElem?, Array.getElem?_setIfInBounds_ne (Ne.symm hji), hji]
    rw [hfun];refine ⟨I', fun j hj hLj => ?_⟩;by_cases hji : j = i
    ·subst hji;rw [hvi, par_same (g := valAt ops a) (fun p hp => hvj p (by have := S.back _ _ (hP j p hj hp); omega) (by have := S.back _ _ (hP j p hj hp); omega))];exact hr
    ·have hLj' : listed.getD j false = true := by simpa [hji] using hLj
     rw [hvj j hj hji, par_same (g := valAt ops a) (fun p hp => by
      have hbf := hP j p hj hp;have hLp : listed.getD p false = true := I.inv.closed j p hj hLj' hbf;refine hvj p (by have := S.back _ _ hbf; omega) (fun e => ?_);subst e;rw [hL] at hLp; cases hLp)]
     exact hK j hj _ _ _ _ (I.fact j hj hLj') hbl
  have hduty := (hWv (valAt ops a)).1 i o ho w I.inv.below
   (fun j hj => by
    have hji := S.back _ _ hj;rw [hval j hj, par_same (g := valAt ops a) (fun p hp => vals_at _ (by have := S.back _ _ (hP j p (by omega) hp); omega))];exact I.fact j (by omega) (hdep j hj))
   (fun a' w' => ∃ v, a' = (acts ops a0 (valAt ops a) i).put o.dst v /\ Below w.heap.size w w' /\ relD Rs i (parV par (fun k => (vals (valAt ops a) i).getD k undef) i) v w') (fun v w' h1 h2 => ⟨v, rfl, h1, h2⟩)
  have hinj : ∀ u v, (acts ops a0 (valAt ops a) i).put o.dst u = (acts ops a0 (valAt ops a) i).put o.dst v -> u = v := by
   intro u v huv;rw [hds, hd] at huv;have h1 := congrArg (fun x => x.tmps[d]?) huv;have hsz := (acts_size (ops := ops) a0 (valAt ops a) i).1;have hlt : d < (acts ops a0 (valAt ops a) i).tmps.size := by rw [hsz, hn]; exact hdn
   simp [Act.put, hlt] at h1;exact h1
  unfold wpOp;simp only [ho];rw [hwt];split
  ·rename_i hw
   rw [if_pos hw] at hduty;refine Or.inl (Oper.wp_mono (fun a' w' h => ?_) (oper_alike (d := d) (by rw [hds, hd]) (by rw [(acts_size (ops := ops) a0 (valAt ops a) i).1, hn]; exact hdn) hex hduty));obtain ⟨v, rfl, h1, h2⟩ := h;exact hnext v w' h1 h2
  ·rename_i hw
   rw [if_neg hw] at hduty;obtain ⟨v, h1, h2, h3⟩ := hduty;obtain rfl := hinj _ _ h1;exact hnext undef w h2 h3
end
def KeepsD (R : RelD) : Prop := ∀ ps v w w', R ps v w -> Below w.heap.size w w' -> R ps v w'
def KeepsL : List RelD -> Prop
 | [] => True
 | R :: rs => KeepsD R /\ KeepsL rs
theorem KeepsL.all : ∀ (rs : List RelD), KeepsL rs -> ∀ i, KeepsD (relD rs i)
 | [], _, i => by intro ps v w w' _ _; simp [relD]
 | R :: rs, h, 0 => h.1
 | R :: rs, h, i + 1 => by
  have := KeepsL.all rs h.2 i;unfold relD at this ⊢
  simpa using this
theorem keeps_eq (x : Value) : KeepsD (eqD x) := fun _ _ _ _ h _ => h
def parB (md : Region.Mode) (ops : Array Oper) (par : List (List Nat)) : Bool := (List.range ops.size).all fun i => (par.getD i []).all fun p => beforeB md ops p i
theorem par_of {md : Region.Mode} {ops : Array Oper} {par : List (List Nat)} (h : parB md ops par = true) : ∀ i p, i < ops.size -> p ∈ par.getD i [] -> beforeB md ops p i = true := by
 intro i p hi hp;unfold parB at h;rw [List.all_eq_true] at h;have := h i (List.mem_range.2 hi);rw [List.all_eq_true] at this;exact this p hp
theorem region_quiet {P : Program} {ops : Array Oper} {Q : Exit -> Act -> World -> Prop} {id : Nat} {a0 : Act} {w : World} (n : Nat) (Rs : List RelD) (par : List (List Nat)) (hm : P.follows .mixedOrders = true) (hn : a0.tmps.size = n) (hs : shapeB .any ops [] (List.replicate ops.size none) n = true) (hp : parB .any ops par = true)
 (hK : KeepsL Rs) (hW : Walk P ops Q .any Rs par w.drew ops.toList 0 a0 []) : (Code.region id ops true).wp P Q a0 w := by
 refine wp_region_any hm (any_quiet (w0 := w.drew) (eats := List.replicate ops.size none) (fun i => ?_) (shape_of hs) (fun i _ => KeepsL.all _ hK i) (par_of hp) hn hW ops.size _ a0 w.drew (by simp) ?_ (Nat.le_refl _) ?_)
 ·unfold Ow.eatsAt;by_cases hi : i < ops.size
  ·simp [hi]
  ·simp [hi]
 ·exact Nat.le_trans List.countP_le_length (by simp)
 ·refine ⟨⟨Below.refl _ _, rfl, rfl, fun _ _ => rfl, ?_, ?_, ?_, ?_⟩, ?_⟩
  all_goals
   intros
   rename_i h
   first | (simp [Array.getD] at h; done) | (rename_i h' _; simp [Array.getD] at *)
theorem walk_cons {P : Program} {ops : Array Oper} {Q : Exit -> Act -> World -> Prop} {md : Region.Mode} {Rs : List RelD} {par : List (List Nat)} {w0 : World} {l r : List Oper} {o : Oper} {i : Nat} {a : Act} {vs : List Value} {f : Value -> Act} {us : Value -> List Value}
 (hl : l = o :: r) (h : Duty P ops md Rs par w0 i o a vs) (hf : ∀ v, a.put o.dst v = f v) (hu : ∀ v, vs ++ [v] = us v) (hr : ∀ v, Walk P ops Q md Rs par w0 r (i + 1) (f v) (us v)) : Walk P ops Q md Rs par w0 l i a vs := by
 subst hl; exact ⟨h, fun v => by rw [hf, hu]; exact hr v⟩
theorem walk_nil {P : Program} {ops : Array Oper} {Q : Exit -> Act -> World -> Prop} {md : Region.Mode} {Rs : List RelD} {par : List (List Nat)} {w0 : World} {l : List Oper} {i : Nat} {a : Act} {vs : List Value}
 (hl : l = []) (h : ∀ w, Below w0.heap.size w0 w -> (∀ j, Nat.blt j ops.size = true -> relD Rs j (parV par (fun k => vs.getD k undef) j) (vs.getD j undef) w) -> Q .normal a w) : Walk P ops Q md Rs par w0 l i a vs := by
 subst hl;exact fun w hb hd => h w hb fun j hj => hd j (by simpa using hj)
theorem walk_q {P : Program} {ops : Array Oper} {Q : Exit -> Act -> World -> Prop} {md : Region.Mode} {Rs : List RelD} {par : List (List Nat)} {w0 : World} {l r : List Oper} {o : Oper} {i : Nat} {a : Act} {vs : List Value} {f : Value -> Act} {us : Value -> List Value}
 (h : Duty P ops md Rs par w0 i o a vs) (hr : ∀ v, Walk P ops Q md Rs par w0 r (i + 1) (f v) (us v))
 (hl : l = o :: r := by exact rfl) (hf : ∀ v, a.put o.dst v = f v := by intro v; simp only [Act.put, List.setIfInBounds_toArray, List.set_cons_succ, List.set_cons_zero]; exact rfl) (hu : ∀ v, vs ++ [v] = us v := by intro v; simp only [List.cons_append, List.nil_append]; exact rfl) : Walk P ops Q md Rs par w0 l i a vs :=
 walk_cons hl h hf hu hr
end Oy
end Go.Proofs.YtcnfcililiehlaaGreatDoor
