/- Own texts, joined: Oy, Bz. -/
import Derived.Test.YtdelihhbmagphaaGreatDoorR1
import Derived.Test.YtdelihhbmagphaaGreatDoorR19
import Derived.Test.YtdelihhbmagphaaGreatDoorR32
import Derived.Lib.ItoaLen
import Derived.Deep.RegionHeld3
namespace Go.Proofs.YtdelihhbmagphaaGreatDoor
open Go Go.RowKit
namespace Oy
open Ow (beforeB dstAt looksB shapeB Shape acts vals vals_succ vals_at valAt valAt_put before_iff acts_size acts_at run_alike oper_alike countP_lt NoWay shape_of)
abbrev RelD := List Value → Value → World → Prop
def eqD (x : Value) : RelD := fun _ v _ => v = x
section
variable (P : Program) (ops : Array Oper) (Q : Exit → Act → World → Prop) (md : Region.Mode) (Rs : List RelD) (par : List (List Nat))
def parV (f : Nat → Value) (i : Nat) : List Value := (par.getD i []).map f
def relD (i : Nat) : RelD := (Rs[i]?).getD fun _ _ _ => True
def Duty (w0 : World) (i : Nat) (o : Oper) (a : Act) (vs : List Value) : Prop :=
 ∀ w, Below w0.heap.size w0 w → (∀ j, beforeB md ops j i = true → relD Rs j (parV par (fun k => vs.getD k undef) j) (vs.getD j undef) w) →
  ∀ K : Act → World → Prop, (∀ v w', Below w.heap.size w w' → relD Rs i (parV par (fun k => vs.getD k undef) i) v w' → K (a.put o.dst v) w') →
   if Region.wanted o (yielded ops a.tmps) = true then Oper.wp P o a w K NoWay else K (a.put o.dst undef) w
def Walk (w0 : World) : List Oper → Nat → Act → List Value → Prop
 | [], _, a, vs => ∀ w, Below w0.heap.size w0 w → (∀ j, j < ops.size → relD Rs j (parV par (fun k => vs.getD k undef) j) (vs.getD j undef) w) → Q .normal a w
 | o :: r, i, a, vs => Duty P ops md Rs par w0 i o a vs ∧ ∀ v, Walk w0 r (i + 1) (a.put o.dst v) (vs ++ [v])
end
section
variable {P : Program} {ops : Array Oper} {Q : Exit → Act → World → Prop} {md : Region.Mode} {Rs : List RelD} {par : List (List Nat)} {w0 : World}
theorem walk_acts (a0 : Act) (vs : Nat → Value) : ∀ (l : List Oper) (i : Nat), (∀ j, l[j]? = ops[i + j]?) → Walk P ops Q md Rs par w0 l i (acts ops a0 vs i) (vals vs i) →
  (∀ j o, i ≤ j → ops[j]? = some o → Duty P ops md Rs par w0 j o (acts ops a0 vs j) (vals vs j)) ∧ (i ≤ ops.size → Walk P ops Q md Rs par w0 [] ops.size (acts ops a0 vs ops.size) (vals vs ops.size)) := by
 intro l
 induction l with
 | nil =>
  intro i hl h
  have hs : ops.size ≤ i := by
   have := hl 0
   simp at this
   exact this
  refine ⟨fun j o hj ho => ?_, fun hi => ?_⟩
  ·have := (Array.getElem?_eq_some_iff.1 ho).1; omega
  ·have : i = ops.size := by omega
   subst this
   exact h
 | cons o r ih =>
  intro i hl h
  have h0 : ops[i]? = some o := by have := hl 0; simpa using this.symm
  have hd : dstAt ops i = o.dst := by simp [dstAt, h0]
  have hw := h.2 (vs i)
  rw [← hd, ← vals_succ] at hw
  obtain ⟨h1, h2⟩ := ih (i + 1) (fun j => by have := hl (j + 1); simp at this; rw [this]; congr 1; omega) hw
  refine ⟨fun j p hj hp => ?_, fun _ => h2 (by have := (Array.getElem?_eq_some_iff.1 h0).1; omega)⟩
  by_cases hji : j = i
  ·subst hji
   obtain rfl : o = p := by rw [h0] at hp; exact Option.some.inj hp
   exact h.1
  ·exact h1 j p (by omega) hp
structure Inv (P : Program) (ops : Array Oper) (md : Region.Mode) (Rs : List RelD) (par : List (List Nat)) (eats : List (Option Nat)) (w0 : World) (a0 : Act) (L : Nat → Bool) (a : Act) (w : World) : Prop where
 inv : Ow.Inv P ops md [] [] eats w0.heap.size w0 a0 L a w
 fact : ∀ i, i < ops.size → L i = true → relD Rs i (parV par (valAt ops a) i) (valAt ops a i) w
theorem par_same {f g : Nat → Value} {i : Nat} (h : ∀ p, p ∈ par.getD i [] → f p = g p) : parV par f i = parV par g i := by
 unfold parV
 exact List.map_congr_left h
theorem any_quiet {n : Nat} {eats : List (Option Nat)} (he : ∀ i, Ow.eatsAt eats i = none) (S : Shape md ops [] eats n) (hK : ∀ i, i < ops.size → ∀ ps v w w', relD Rs i ps v w → Below w.heap.size w w' → relD Rs i ps v w') (hP : ∀ i p, i < ops.size → p ∈ par.getD i [] → beforeB md ops p i = true) {a0 : Act} (hn : a0.tmps.size = n)
  (hW : Walk P ops Q md Rs par w0 ops.toList 0 a0 []) : ∀ (fuel : Nat) (listed : Array Bool) (a : Act) (w : World), listed.size = ops.size → (List.range ops.size).countP (fun i => !listed.getD i false) ≤ fuel → w0.heap.size ≤ w.heap.size →
  Inv P ops md Rs par eats w0 a0 (fun i => listed.getD i false) a w → wpAny P md ops Q fuel listed a w := by
 have hWv : ∀ vs : Nat → Value, (∀ j o, ops[j]? = some o → Duty P ops md Rs par w0 j o (acts ops a0 vs j) (vals vs j)) ∧ Walk P ops Q md Rs par w0 [] ops.size (acts ops a0 vs ops.size) (vals vs ops.size) := by
  intro vs
  obtain ⟨h1, h2⟩ := walk_acts a0 vs ops.toList 0 (by simp) hW
  exact ⟨fun j o ho => h1 j o (Nat.zero_le _) ho, h2 (Nat.zero_le _)⟩
 have fin : ∀ (listed : Array Bool) (a : Act) (w : World), listed.size = ops.size → Inv P ops md Rs par eats w0 a0 (fun i => listed.getD i false) a w → Region.ready md ops listed = [] → Q .normal a w := by
  intro listed a w hls I hr
  have all : ∀ i, i < ops.size → listed.getD i false = true := by
   intro i
   induction i using Nat.strongRecOn with
   | _ i ih =>
    intro hi
    cases hli : listed.getD i false with
    | true => rfl
    | false =>
     have : i ∈ Region.ready md ops listed := by
      rw [mem_ready]
      refine ⟨by rw [← hli]; simp [Array.getD, hls, hi], ops[i], by simp [hi], fun e he hb => ?_⟩
      have hbf := S.deps i ops[i] (by simp [hi]) e he hb
      exact ih _ (S.back _ _ hbf) (by have := S.back _ _ hbf; omega)
     rw [hr] at this; cases this
  obtain ⟨_, h2⟩ := hWv (valAt ops a)
  have hact : acts ops a0 (valAt ops a) ops.size = a := by
   obtain ⟨s1, s2⟩ := acts_size (ops := ops) a0 (valAt ops a) ops.size
   have ht : (acts ops a0 (valAt ops a) ops.size).tmps = a.tmps := by
    apply Array.ext_getElem?
    intro d
    obtain ⟨k1, k2⟩ := acts_at S a0 hn (valAt ops a) d ops.size (Nat.le_refl _)
    by_cases hj : ∃ j, j < ops.size ∧ dstAt ops j = some d
    ·obtain ⟨j, hj, hjd⟩ := hj
     rw [k1 j hj hjd]
     obtain ⟨e, he', hen⟩ := S.dst j hj
     obtain rfl : e = d := by rw [hjd] at he'; exact (Option.some.inj he').symm
     unfold valAt
     rw [hjd]
     have : e < a.tmps.size := by rw [I.inv.size, hn]; exact hen
     simp [Array.getD, this]
    ·rw [k2 (fun k hk hkd => hj ⟨k, hk, hkd⟩)]
     exact (I.inv.rest d (fun k hk hkd => absurd ⟨k, hk, hkd⟩ hj)).symm
   have hdf := s2.trans I.inv.defers.symm
   generalize acts ops a0 (valAt ops a) ops.size = b at *
   obtain ⟨bt, bd⟩ := b
   obtain ⟨at', ad⟩ := a
   simp at ht hdf
   rw [ht, hdf]
  have := h2 w I.inv.below
  rw [hact] at this
  refine this (fun j hj => ?_)
  rw [vals_at _ hj, par_same (g := valAt ops a) (fun p hp => vals_at _ (by have := S.back _ _ (hP j p hj hp); omega))]
  exact I.fact j hj (all j hj)
 intro fuel
 induction fuel with
 | zero =>
  intro listed a w hls hc hb I
  have hr : Region.ready md ops listed = [] := by
   cases h : Region.ready md ops listed with
   | nil => rfl
   | cons i r =>
    exfalso
    have hi : i ∈ Region.ready md ops listed := by rw [h]; simp
    obtain ⟨h0, o, ho, _⟩ := mem_ready.1 hi
    have his := (Array.getElem?_eq_some_iff.1 ho).1
    have : 0 < (List.range ops.size).countP (fun i => !listed.getD i false) := List.countP_pos_iff.2 ⟨i, List.mem_range.2 his, by
     rw [show listed.getD i false = listed.getD i true by simp [Array.getD, hls, his], h0]; rfl⟩
    omega
  exact ⟨hr, fin listed a w hls I hr⟩
 | succ fuel ih =>
  intro listed a w hls hc hb I
  refine ⟨fin listed a w hls I, fun i hi => ?_⟩
  obtain ⟨h0, o, ho, hall⟩ := mem_ready.1 hi
  have his := (Array.getElem?_eq_some_iff.1 ho).1
  have hL : listed.getD i false = false := by rw [show listed.getD i false = listed.getD i true by simp [Array.getD, hls, his], h0]
  have hdep : ∀ j, beforeB md ops j i = true → listed.getD j false = true := by
   intro j hj
   obtain ⟨o', ho', e, he, hbd, rfl⟩ := before_iff.1 hj
   obtain rfl : o = o' := by rw [ho] at ho'; exact Option.some.inj ho'
   exact hall e he hbd
  have hds : o.dst = dstAt ops i := by simp [dstAt, ho]
  obtain ⟨d, hd, hdn⟩ := S.dst i his
  have hag := I.inv.agrees S hn his hL hdep
  obtain ⟨hex, hwt⟩ := run_alike (ops := ops) (o := o) (S.sel i o · · ho) (a := a) (b := acts ops a0 (valAt ops a) i) (fun d hd => hag d (by unfold looksB; rw [ho]; simpa using hd))
  have hval : ∀ j, beforeB md ops j i = true → (vals (valAt ops a) i).getD j undef = valAt ops a j := fun j hj => vals_at _ (S.back _ _ hj)
  have hpar : parV par (fun k => (vals (valAt ops a) i).getD k undef) i = parV par (valAt ops a) i := par_same (fun p hp => hval p (hP i p his hp))
  have hnext : ∀ v w', Below w.heap.size w w' → relD Rs i (parV par (fun k => (vals (valAt ops a) i).getD k undef) i) v w' → wpAny P md ops Q fuel (listed.setIfInBounds i true) (a.put o.dst v) w' := by
   intro v w' hbl hr
   rw [hpar] at hr
   have hgr : w.grownBy w' (Ow.rowOf ops eats a i) := by
    unfold Ow.rowOf
    rw [he i]
    exact ⟨hbl.os, hbl.tape, hbl.output, hbl.size, fun k hk _ => hbl.block k hk⟩
   obtain ⟨I', hb'⟩ := I.inv.step S (fun j _ => by intro v w w' row _ _ _ _; simp [Ow.rel]) hn hb his hL hdep (v := v) (w' := w') ⟨by simp [Ow.rel], hgr, by simp⟩
   obtain ⟨hvi, hvj⟩ := valAt_put S (I.inv.size.trans hn) his v
   rw [hds]
   refine ih _ _ _ (by simp [hls]) ?_ hb' ?_
   ·have : (List.range ops.size).countP (fun j => !(listed.setIfInBounds i true).getD j false) < (List.range ops.size).countP (fun j => !listed.getD j false) := by
     refine countP_lt _ i (List.mem_range.2 his) (by simp [hL]) (by simp [Array.getD, hls, his]) (fun j hj h => ?_)
     by_cases hji : i = j
     ·subst hji; simp [Array.getD, hls, his] at h
     ·simpa [Array.getD_eq_getD_getElem?, Array.getElem?_setIfInBounds_ne hji] using h
    omega
   ·have hfun : (fun j => (listed.setIfInBounds i true).getD j false) = fun j => if j = i then true else listed.getD j false := by
     funext j
     by_cases hji : j = i
     ·subst hji; simp [Array.getD, hls, his]
     ·simp [Array.getD_eq_getD_getElem?, Array.getElem?_setIfInBounds_ne (Ne.symm hji), hji]
    rw [hfun]
    refine ⟨I', fun j hj hLj => ?_⟩
    by_cases hji : j = i
    ·subst hji
     rw [hvi, par_same (g := valAt ops a) (fun p hp => hvj p (by have := S.back _ _ (hP j p hj hp); omega) (by have := S.back _ _ (hP j p hj hp); omega))]
     exact hr
    ·have hLj' : listed.getD j false = true := by simpa [hji] using hLj
     rw [hvj j hj hji, par_same (g := valAt ops a) (fun p hp => by
      have hbf := hP j p hj hp
      have hLp : listed.getD p false = true := I.inv.closed j p hj hLj' hbf
      refine hvj p (by have := S.back _ _ hbf; omega) (fun e => ?_)
      subst e
      rw [hL] at hLp; cases hLp)]
     exact hK j hj _ _ _ _ (I.fact j hj hLj') hbl
  have hduty := (hWv (valAt ops a)).1 i o ho w I.inv.below
   (fun j hj => by
    have hji := S.back _ _ hj
    rw [hval j hj, par_same (g := valAt ops a) (fun p hp => vals_at _ (by have := S.back _ _ (hP j p (by omega) hp); omega))]
    exact I.fact j (by omega) (hdep j hj))
   (fun a' w' => ∃ v, a' = (acts ops a0 (valAt ops a) i).put o.dst v ∧ Below w.heap.size w w' ∧ relD Rs i (parV par (fun k => (vals (valAt ops a) i).getD k undef) i) v w') (fun v w' h1 h2 => ⟨v, rfl, h1, h2⟩)
  have hinj : ∀ u v, (acts ops a0 (valAt ops a) i).put o.dst u = (acts ops a0 (valAt ops a) i).put o.dst v → u = v := by
   intro u v huv
   rw [hds, hd] at huv
   have h1 := congrArg (fun x => x.tmps[d]?) huv
   have hsz := (acts_size (ops := ops) a0 (valAt ops a) i).1
   have hlt : d < (acts ops a0 (valAt ops a) i).tmps.size := by rw [hsz, hn]; exact hdn
   simp [Act.put, hlt] at h1
   exact h1
  unfold wpOp
  simp only [ho]
  rw [hwt]
  split
  ·rename_i hw
   rw [if_pos hw] at hduty
   refine Or.inl (Oper.wp_mono (fun a' w' h => ?_) (oper_alike (d := d) (by rw [hds, hd]) (by rw [(acts_size (ops := ops) a0 (valAt ops a) i).1, hn]; exact hdn) hex hduty))
   obtain ⟨v, rfl, h1, h2⟩ := h
   exact hnext v w' h1 h2
  ·rename_i hw
   rw [if_neg hw] at hduty
   obtain ⟨v, h1, h2, h3⟩ := hduty
   obtain rfl := hinj _ _ h1
   exact hnext undef w h2 h3
end
def KeepsD (R : RelD) : Prop := ∀ ps v w w', R ps v w → Below w.heap.size w w' → R ps v w'
def KeepsL : List RelD → Prop
 | [] => True
 | R :: rs => KeepsD R ∧ KeepsL rs
theorem KeepsL.all : ∀ (rs : List RelD), KeepsL rs → ∀ i, KeepsD (relD rs i)
 | [], _, i => by intro ps v w w' _ _; simp [relD]
 | R :: rs, h, 0 => h.1
 | R :: rs, h, i + 1 => by
  have := KeepsL.all rs h.2 i
  unfold relD at this ⊢
  simpa using this
theorem keeps_eq (x : Value) : KeepsD (eqD x) := fun _ _ _ _ h _ => h
def parB (md : Region.Mode) (ops : Array Oper) (par : List (List Nat)) : Bool := (List.range ops.size).all fun i => (par.getD i []).all fun p => beforeB md ops p i
theorem par_of {md : Region.Mode} {ops : Array Oper} {par : List (List Nat)} (h : parB md ops par = true) : ∀ i p, i < ops.size → p ∈ par.getD i [] → beforeB md ops p i = true := by
 intro i p hi hp
 unfold parB at h
 rw [List.all_eq_true] at h
 have := h i (List.mem_range.2 hi)
 rw [List.all_eq_true] at this
 exact this p hp
theorem region_quiet {P : Program} {ops : Array Oper} {Q : Exit → Act → World → Prop} {id : Nat} {a0 : Act} {w : World} (n : Nat) (Rs : List RelD) (par : List (List Nat)) (hm : P.follows .mixedOrders = true) (hn : a0.tmps.size = n) (hs : shapeB .any ops [] (List.replicate ops.size none) n = true) (hp : parB .any ops par = true)
  (hK : KeepsL Rs) (hW : Walk P ops Q .any Rs par w.drew ops.toList 0 a0 []) : (Code.region id ops true).wp P Q a0 w := by
 refine wp_region_any hm (any_quiet (w0 := w.drew) (eats := List.replicate ops.size none) (fun i => ?_) (shape_of hs) (fun i _ => KeepsL.all _ hK i) (par_of hp) hn hW ops.size _ a0 w.drew (by simp) ?_ (Nat.le_refl _) ?_)
 ·unfold Ow.eatsAt
  by_cases hi : i < ops.size
  ·simp [hi]
  ·simp [hi]
 ·exact Nat.le_trans List.countP_le_length (by simp)
 ·refine ⟨⟨Below.refl _ _, rfl, rfl, fun _ _ => rfl, ?_, ?_, ?_, ?_⟩, ?_⟩
  all_goals
   intros
   rename_i h
   first | (simp [Array.getD] at h; done) | (rename_i h' _; simp [Array.getD] at *)
theorem walk_cons {P : Program} {ops : Array Oper} {Q : Exit → Act → World → Prop} {md : Region.Mode} {Rs : List RelD} {par : List (List Nat)} {w0 : World} {l r : List Oper} {o : Oper} {i : Nat} {a : Act} {vs : List Value} {f : Value → Act} {us : Value → List Value}
  (hl : l = o :: r) (h : Duty P ops md Rs par w0 i o a vs) (hf : ∀ v, a.put o.dst v = f v) (hu : ∀ v, vs ++ [v] = us v) (hr : ∀ v, Walk P ops Q md Rs par w0 r (i + 1) (f v) (us v)) : Walk P ops Q md Rs par w0 l i a vs := by
 subst hl; exact ⟨h, fun v => by rw [hf, hu]; exact hr v⟩
theorem walk_nil {P : Program} {ops : Array Oper} {Q : Exit → Act → World → Prop} {md : Region.Mode} {Rs : List RelD} {par : List (List Nat)} {w0 : World} {l : List Oper} {i : Nat} {a : Act} {vs : List Value}
  (hl : l = []) (h : ∀ w, Below w0.heap.size w0 w → (∀ j, Nat.blt j ops.size = true → relD Rs j (parV par (fun k => vs.getD k undef) j) (vs.getD j undef) w) → Q .normal a w) : Walk P ops Q md Rs par w0 l i a vs := by
 subst hl
 exact fun w hb hd => h w hb fun j hj => hd j (by simpa using hj)
end Oy
end Go.Proofs.YtdelihhbmagphaaGreatDoor
namespace Go.Proofs.YtdelihhbmagphaaGreatDoor.Ch
open Go.RowKit
def ptB (a b : Int) : List UInt8 := if (Pl.inB a && Pl.inB b) = true then Pl.shw a b else Pl.shw 0 0
def varL (v : VM) : Option (List (List UInt8)) :=
 if v.kd = 1 then some [wInt, v.nm, Lib.itoa v.lo, Lib.itoa v.hi, Lib.itoa v.ia]
 else if v.kd = 2 then some [wBool, v.nm, if v.ia = 1 then wTrue else wFalse]
 else if v.kd = 3 then some [wPoint, v.nm, Lib.itoa v.lo, Lib.itoa v.hi, ptB v.ia v.ib]
 else none
def putO (l : List UInt8) (d : Int) : Option (List (List UInt8)) → List UInt8
 | none => l
 | some ls => putL l d ls
def I64 (n : Int) : Prop := -9223372036854775808 ≤ n ∧ n ≤ 9223372036854775807
structure VaZ (v : VM) : Prop where
 nm : v.nm.length ≤ 140737488355328
 lo : I64 v.lo
 hi : I64 v.hi
 ia : I64 v.ia
theorem itoa_short {n : Int} (h : I64 n) : (Lib.itoa n).length ≤ 140737488355328 := by
 have := Lib.itoa_length_le n h.1 h.2
 omega
theorem ptB_short (a b : Int) : (ptB a b).length ≤ 140737488355328 := by
 have h0 : ∀ a b : Int, Pl.inB a = true → Pl.inB b = true → (Pl.shw a b).length ≤ 140737488355328 := by
  intro a b ha hb
  have ha' := Pl.inB_iff.1 ha
  have hb' := Pl.inB_iff.1 hb
  have h1 := Lib.itoa_length_le a (by omega) (by omega)
  have h2 := Lib.itoa_length_le b (by omega) (by omega)
  unfold Pl.shw Pl.sgn
  split <;> simp <;> omega
 unfold ptB
 split
 ·rename_i h
  rw [Bool.and_eq_true] at h
  exact h0 a b h.1 h.2
 ·exact h0 0 0 rfl rfl
theorem varL_le {v : VM} (h : VaZ v) {ls : List (List UInt8)} (hl : varL v = some ls) : ls.length ≤ 5 ∧ ∀ x ∈ ls, x.length ≤ 140737488355328 := by
 unfold varL at hl
 split at hl
 ·injection hl with hl; subst hl
  refine ⟨by simp, fun x hx => ?_⟩
  simp only [List.mem_cons, List.not_mem_nil, or_false] at hx
  rcases hx with rfl | rfl | rfl | rfl | rfl
  ·decide
  ·exact h.nm
  ·exact itoa_short h.lo
  ·exact itoa_short h.hi
  ·exact itoa_short h.ia
 ·split at hl
  ·injection hl with hl; subst hl
   refine ⟨by simp, fun x hx => ?_⟩
   simp only [List.mem_cons, List.not_mem_nil, or_false] at hx
   rcases hx with rfl | rfl | rfl
   ·decide
   ·exact h.nm
   ·split <;> decide
  ·split at hl
   ·injection hl with hl; subst hl
    refine ⟨by simp, fun x hx => ?_⟩
    simp only [List.mem_cons, List.not_mem_nil, or_false] at hx
    rcases hx with rfl | rfl | rfl | rfl | rfl
    ·decide
    ·exact h.nm
    ·exact itoa_short h.lo
    ·exact itoa_short h.hi
    ·exact ptB_short _ _
   ·cases hl
theorem pl_made (a b : Int) (w : World) : ∃ e', Calls Tryz.prog 97 #[.int .i64 a, .int .i64 b] w fun e w' => e = .returned (.tuple #[.complex .f64 (floatOfInt .f64 (if (Pl.inB a && Pl.inB b) = true then a else 0)) (floatOfInt .f64 (if (Pl.inB a && Pl.inB b) = true then b else 0)), .int .i64 e']) ∧ w = w' := by
 by_cases h : (Pl.inB a && Pl.inB b) = true
 ·have h2 := h
  rw [Bool.and_eq_true] at h2
  rw [if_pos h, if_pos h]
  exact ⟨_, Pl.made_ok a b w h2.1 h2.2⟩
 ·rw [if_neg h, if_neg h]
  have e0 : floatOfInt .f64 0 = 0 := by kernel_rfl
  rw [e0]
  exact ⟨_, Pl.made_no a b w (by simpa using h)⟩
theorem pl_show (a b : Int) (w : World) (hL : Pl.Laid w) : Calls Tryz.prog 98 #[.complex .f64 (floatOfInt .f64 (if (Pl.inB a && Pl.inB b) = true then a else 0)) (floatOfInt .f64 (if (Pl.inB a && Pl.inB b) = true then b else 0))] w fun e w' => e = .returned (.tuple #[.string ⟨(ptB a b).toArray⟩, .int .i64 0]) ∧ Below w.heap.size w w' := by
 unfold ptB
 by_cases h : (Pl.inB a && Pl.inB b) = true
 ·have h2 := h
  rw [Bool.and_eq_true] at h2
  rw [if_pos h, if_pos h, if_pos h]
  exact Pl.show_ok a b w h2.1 h2.2 hL
 ·rw [if_neg h, if_neg h, if_neg h]
  exact Pl.show_ok 0 0 w rfl rfl hL
theorem below_of_drew {w W : World} (h : Below w.drew.heap.size w.drew W) : Below w.heap.size w W := (Below.drew (Below.refl _ _)).trans (show Below w.heap.size w.drew W from h)
theorem kV {W : World} {D : Nat} {x0 x1 x2 x3 x4 x5 x6 : Value} {t : TypeId} (h : W.heap[D]? = some (.cells #[x0, x1, x2, x3, x4, x5, x6] t (0, 0))) : W.heap[D]? = some (.cells #[x0, x1, x2, x3, x4, x5, x6] t (0, 0)) ∧ W.cell? ⟨D, 0, none⟩ = some x0 ∧ W.cell? ⟨D, 5, none⟩ = some x5 := by simp [World.cell?, h]
set_option maxRecDepth 100000 in
set_option maxHeartbeats 8000000 in
theorem wvar_any {b B : Nat} {w : World} {l : List UInt8} (h : Wr b B w l) (hl : l.length ≤ 6000) (v : VM) (hz : VaZ v) (hE : Env w) :
  Calls Tryz.prog 55 #[.pointer (some ⟨b, 0, none⟩), .agg (vaV v).toArray] w fun e w' => e = .returned (.tuple #[]) ∧ Wr b B w' (putO l 0 (varL v)) ∧ KeptB b B w w' ∧ KeptU b w w' := by
 have HZ := Lib.hid hz; have HH := Lib.hid h; have HE := Lib.hid hE
 have HLE := Lib.hid (fun ls => varL_le (ls := ls) hz)
 obtain ⟨nm, kd, lo, hi, ik, ia, ib⟩ := v
 have HDG : Hid (∀ n, I64 n → ∀ W, Below w.heap.size w W → Calls Tryz.prog 96 #[.int .i64 n] W fun e w' => e = .returned (.string ⟨(Lib.itoa n).toArray⟩) ∧ Below W.heap.size W w') := fun n hn W hW => digits_any n W hn.1 hn.2 (hE.laid.below hW)
 have HPS : Hid (∀ W, Below w.heap.size w W → Calls Tryz.prog 98 #[.complex .f64 (floatOfInt .f64 (if (Pl.inB ia && Pl.inB ib) = true then ia else 0)) (floatOfInt .f64 (if (Pl.inB ia && Pl.inB ib) = true then ib else 0))] W fun e w' => e = .returned (.tuple #[.string ⟨(ptB ia ib).toArray⟩, .int .i64 0]) ∧ Below W.heap.size W w') := fun W hW => pl_show ia ib W (hE.pl.below hW)
 show Calls _ _ #[_, .agg #[bstr nm, .int .i64 kd, .int .i64 lo, .int .i64 hi, .int .i64 ik, .int .i64 ia, .int .i64 ib]] w fun e w' => e = .returned (.tuple #[]) ∧ Wr b B w' (putO l 0 (varL ⟨nm, kd, lo, hi, ik, ia, ib⟩)) ∧ _
 obtain ⟨N, hN, hNl⟩ := bstr_some nm
 rw [hN]
 have HN := Lib.hid hN
 clear hz h hE hN hNl
 obtain ⟨w2, hw2⟩ : ∃ W, W = w.alloc (.cells #[.string N, .int .i64 kd, .int .i64 lo, .int .i64 hi, .int .i64 ik, .int .i64 ia, .int .i64 ib] 64) := ⟨_, rfl⟩
 have hb2 : Below w.heap.size w w2 := hw2 ▸ (Below.refl _ _).alloc (Nat.le_refl _) _
 have c0 : w2.cell? ⟨w.heap.size, 0, none⟩ = some (.string N) := by rw [hw2]; simp
 have c1 : w2.cell? ⟨w.heap.size, 1, none⟩ = some (.int .i64 kd) := by rw [hw2]; simp
 have c2 : w2.cell? ⟨w.heap.size, 2, none⟩ = some (.int .i64 lo) := by rw [hw2]; simp
 have c3 : w2.cell? ⟨w.heap.size, 3, none⟩ = some (.int .i64 hi) := by rw [hw2]; simp
 have c4 : w2.cell? ⟨w.heap.size, 4, none⟩ = some (.int .i64 ik) := by rw [hw2]; simp
 have c5 : w2.cell? ⟨w.heap.size, 5, none⟩ = some (.int .i64 ia) := by rw [hw2]; simp
 have c6 : w2.cell? ⟨w.heap.size, 6, none⟩ = some (.int .i64 ib) := by rw [hw2]; simp
 have HW2B : Hid (∀ w1, Below w2.heap.size w2.drew w1 → Below w.heap.size w w1) := fun w1 hb => hb2.trans (((Below.refl _ _).drew.trans hb).mono hb2.size)
 have HW2 := Lib.hid hw2
 have HR : Hid (w2.heap[w.heap.size]? = some (.cells #[.string N, .int .i64 kd, .int .i64 lo, .int .i64 hi, .int .i64 ik, .int .i64 ia, .int .i64 ib] 64 (0, 0))) := by show _ = _; rw [hw2]; exact World.alloc_heap_new w _
 have HBN : Hid (w.heap.size ≠ b) := fun e => by have := HH.out.lt; have := HH.out.le; omega
 clear hb2 hw2
 go_enter Tryz.func55, Tryz.ntmps55
 go_wp2_with fail
 rw [← HW2.out]
 refine Oy.region_quiet 69 [Oy.eqD (.pointer (some ⟨w.heap.size, 2, none⟩)), Oy.eqD (.int .i64 lo), Oy.eqD (.string ⟨(Lib.itoa lo).toArray⟩), Oy.eqD (.pointer (some ⟨w.heap.size, 3, none⟩)), Oy.eqD (.int .i64 hi), Oy.eqD (.string ⟨(Lib.itoa hi).toArray⟩), Oy.eqD (.string ⟨(Lib.itoa lo).toArray⟩), Oy.eqD (.string ⟨(Lib.itoa hi).toArray⟩)] [[], [], [], [], [], [], [], []] (by kernel_rfl) rfl (by kernel_rfl) (by kernel_rfl) ⟨Oy.keeps_eq _, Oy.keeps_eq _, Oy.keeps_eq _, Oy.keeps_eq _, Oy.keeps_eq _, Oy.keeps_eq _, Oy.keeps_eq _, Oy.keeps_eq _, trivial⟩ ?_
 apply Oy.walk_cons rfl
 ·intro w1 hb hd K hK
  clear hd
  go_simp
  exact hK _ _ (Below.refl _ _) rfl
 ·intro v; simp only [Act.put, List.setIfInBounds_toArray, List.set_cons_succ, List.set_cons_zero]; exact rfl
 ·intro v; exact (rfl : _ = ([v] : List Value))
 intro x11
 apply Oy.walk_cons rfl
 ·intro w1 hb hd K hK
  have e11 : _ = x11 := Eq.symm (hd 0 (by kernel_rfl))
  subst e11
  clear hd
  have c_c2 := (hb.cell (cell_lt c2)).trans c2
  go_simp
  exact hK _ _ (Below.refl _ _) rfl
 ·intro v; simp only [Act.put, List.setIfInBounds_toArray, List.set_cons_succ, List.set_cons_zero]; exact rfl
 ·intro v; exact (rfl : _ = ([x11, v] : List Value))
 intro x12
 apply Oy.walk_cons rfl
 ·intro w1 hb hd K hK
  have e12 : _ = x12 := Eq.symm (hd 1 (by kernel_rfl))
  subst e12
  have hBW : Below w.heap.size w w1 := HW2B.out w1 hb
  clear hd
  go_simp
  refine (HDG.out lo HZ.out.lo w1 hBW).mono ?_
  rintro e w5 ⟨rfl, hb5⟩
  go_simp
  exact hK _ _ hb5 rfl
 ·intro v; simp only [Act.put, List.setIfInBounds_toArray, List.set_cons_succ, List.set_cons_zero]; exact rfl
 ·intro v; exact (rfl : _ = ([x11, x12, v] : List Value))
 intro x13
 apply Oy.walk_cons rfl
 ·intro w1 hb hd K hK
  clear hd
  go_simp
  exact hK _ _ (Below.refl _ _) rfl
 ·intro v; simp only [Act.put, List.setIfInBounds_toArray, List.set_cons_succ, List.set_cons_zero]; exact rfl
 ·intro v; exact (rfl : _ = ([x11, x12, x13, v] : List Value))
 intro x14
 apply Oy.walk_cons rfl
 ·intro w1 hb hd K hK
  have e14 : _ = x14 := Eq.symm (hd 3 (by kernel_rfl))
  subst e14
  clear hd
  have c_c3 := (hb.cell (cell_lt c3)).trans c3
  go_simp
  exact hK _ _ (Below.refl _ _) rfl
 ·intro v; simp only [Act.put, List.setIfInBounds_toArray, List.set_cons_succ, List.set_cons_zero]; exact rfl
 ·intro v; exact (rfl : _ = ([x11, x12, x13, x14, v] : List Value))
 intro x15
 apply Oy.walk_cons rfl
 ·intro w1 hb hd K hK
  have e15 : _ = x15 := Eq.symm (hd 4 (by kernel_rfl))
  subst e15
  have hBW : Below w.heap.size w w1 := HW2B.out w1 hb
  clear hd
  go_simp
  refine (HDG.out hi HZ.out.hi w1 hBW).mono ?_
  rintro e w5 ⟨rfl, hb5⟩
  go_simp
  exact hK _ _ hb5 rfl
 ·intro v; simp only [Act.put, List.setIfInBounds_toArray, List.set_cons_succ, List.set_cons_zero]; exact rfl
 ·intro v; exact (rfl : _ = ([x11, x12, x13, x14, x15, v] : List Value))
 intro x16
 apply Oy.walk_cons rfl
 ·intro w1 hb hd K hK
  have e13 : _ = x13 := Eq.symm (hd 2 (by kernel_rfl))
  subst e13
  clear hd
  go_simp
  exact hK _ _ (Below.refl _ _) rfl
 ·intro v; simp only [Act.put, List.setIfInBounds_toArray, List.set_cons_succ, List.set_cons_zero]; exact rfl
 ·intro v; exact (rfl : _ = ([x11, x12, x13, x14, x15, x16, v] : List Value))
 intro x4
 apply Oy.walk_cons rfl
 ·intro w1 hb hd K hK
  have e16 : _ = x16 := Eq.symm (hd 5 (by kernel_rfl))
  subst e16
  clear hd
  go_simp
  exact hK _ _ (Below.refl _ _) rfl
 ·intro v; simp only [Act.put, List.setIfInBounds_toArray, List.set_cons_succ, List.set_cons_zero]; exact rfl
 ·intro v; exact (rfl : _ = ([x11, x12, x13, x14, x15, x16, x4, v] : List Value))
 intro x5
 refine Oy.walk_nil rfl (fun w1 hb hd => ?_)
 have e11 : _ = x11 := Eq.symm (hd 0 (by kernel_rfl))
 subst e11
 have e12 : _ = x12 := Eq.symm (hd 1 (by kernel_rfl))
 subst e12
 have e13 : _ = x13 := Eq.symm (hd 2 (by kernel_rfl))
 subst e13
 have e14 : _ = x14 := Eq.symm (hd 3 (by kernel_rfl))
 subst e14
 have e15 : _ = x15 := Eq.symm (hd 4 (by kernel_rfl))
 subst e15
 have e16 : _ = x16 := Eq.symm (hd 5 (by kernel_rfl))
 subst e16
 have e4 : _ = x4 := Eq.symm (hd 6 (by kernel_rfl))
 subst e4
 have e5 : _ = x5 := Eq.symm (hd 7 (by kernel_rfl))
 subst e5
 clear hd
 obtain ⟨w3, hw3⟩ : ∃ W, W = w1 := ⟨_, rfl⟩
 subst hw3
 have HB3 : Hid (Below w.heap.size w w3) := HW2B.out w3 hb
 have HR3 := Lib.hid (((Below.drew (Below.refl _ _)).trans hb).block _ (lt_of_heap HR.out) |>.trans HR.out)
 have d0 := (hb.cell (cell_lt c0)).trans c0
 have d1 := (hb.cell (cell_lt c1)).trans c1
 have d4 := (hb.cell (cell_lt c4)).trans c4
 have d5 := (hb.cell (cell_lt c5)).trans c5
 have d6 := (hb.cell (cell_lt c6)).trans c6
 clear hb c0 c1 c2 c3 c4 c5 c6
 go_simp
 have k1 : ∀ n : Int, kd ≠ n → (kd == n) = false := fun n h => beq_eq_false_iff_ne.2 h
 by_cases hk1 : kd = 1
 ·subst hk1
  have hvl : varL ⟨nm, 1, lo, hi, ik, ia, ib⟩ = some [wInt, nm, Lib.itoa lo, Lib.itoa hi, Lib.itoa ia] := rfl
  have hcur : (#[.string ⟨#[105, 110, 116]⟩, .string N, .string ⟨(Lib.itoa lo).toArray⟩, .string ⟨(Lib.itoa hi).toArray⟩, .string ⟨(Lib.itoa ia).toArray⟩] : Array Value).toList = strsV [wInt, nm, Lib.itoa lo, Lib.itoa hi, Lib.itoa ia] := by simp only [strsV, List.map]; rw [HN.out]; rfl
  have HVL := Lib.hid hvl; have HCUR := Lib.hid hcur
  clear hvl hcur
  clear k1
  go_wp2_with fail
  have H3 : Hid (Wr b B w3 l) := HH.out.below HB3.out
  have hq3 : w3.heap[w.heap.size]? = some (.cells #[.string N, .int .i64 1, .int .i64 lo, .int .i64 hi, .int .i64 ik, .int .i64 ia, .int .i64 ib] 64 (0, 0)) := HR3.out
  clear d1 d4 d6
  go_region_held3 (fun w' => w'.heap[w.heap.size]? = some (.cells #[.string N, .int .i64 1, .int .i64 lo, .int .i64 hi, .int .i64 ik, .int .i64 ia, .int .i64 ib] 64 (0, 0)) ∧ w'.cell? ⟨w.heap.size, 0, none⟩ = some (.string N) ∧ w'.cell? ⟨w.heap.size, 5, none⟩ = some (.int .i64 ia))
   (first
    | (go_split_ands; exact kV (hb5.block _ (lt_of_heap (by assumption)) |>.trans (by assumption)))
    | (go_split_ands; exact kV (h3 _ _ _ _ HBN.out (by decide) HR3.out))
    | (go_split_ands; exact kV (heap_old (by assumption)))
    | (go_split_ands; exact kV (by assumption))
    | go_keep)
   ((first | (go_at_call 96; (with_reducible refine (HDG.out ia HZ.out.ia _ (by first | exact HB3.out | exact Below.drew HB3.out)).mono ?_); rintro e w5 ⟨rfl, hb5⟩) | (go_at_call 54; (with_reducible refine (line_at H3.out hl (by first | exact hb5 | exact below_of_drew hb5) 0 [wInt, nm, Lib.itoa lo, Lib.itoa hi, Lib.itoa ia] #[.string ⟨#[105, 110, 116]⟩, .string N, .string ⟨(Lib.itoa lo).toArray⟩, .string ⟨(Lib.itoa hi).toArray⟩, .string ⟨(Lib.itoa ia).toArray⟩] 5 rfl HCUR.out (by omega) (HLE.out _ HVL.out).2).mono ?_); rintro e w9 ⟨rfl, h1, h2, h3⟩)))
  all_goals (go_wp2; go_end0; exact ⟨rfl, by rw [HVL.out]; exact h1, (KeptB.of_below HB3.out HH.out.le).trans h2, (KeptU.of_below HB3.out).trans h3⟩)
 have e1 := k1 1 hk1
 by_cases hk2 : kd = 2
 ·subst hk2
  clear e1 hk1 k1
  by_cases hia : ia = 1
  ·skip
   subst hia
   have hvl : varL ⟨nm, 2, lo, hi, ik, 1, ib⟩ = some [wBool, nm, wTrue] := rfl
   have hcur : (#[.string ⟨#[98, 111, 111, 108]⟩, .string N, .string ⟨#[116, 114, 117, 101]⟩] : Array Value).toList = strsV [wBool, nm, wTrue] := by simp only [strsV, List.map]; rw [HN.out]; rfl
   have HVL := Lib.hid hvl; have HCUR := Lib.hid hcur
   clear hvl hcur
   go_wp2_with fail
   go_at_call 54; refine (line_at HH.out hl (by first | exact HB3.out | exact Below.drew (HB3.out)) 0 [wBool, nm, wTrue] #[.string ⟨#[98, 111, 111, 108]⟩, .string N, .string ⟨#[116, 114, 117, 101]⟩] 3 rfl HCUR.out (by omega) (HLE.out _ HVL.out).2).mono ?_; rintro e w9 ⟨rfl, h1, h2, h3⟩
   go_wp2
   go_end0
   exact ⟨rfl, by rw [HVL.out]; exact h1, h2, h3⟩
  ·skip
   have hvl : varL ⟨nm, 2, lo, hi, ik, ia, ib⟩ = some [wBool, nm, wFalse] := congrArg (fun x => some [wBool, nm, x]) (if_neg hia)
   have hcur : (#[.string ⟨#[98, 111, 111, 108]⟩, .string N, .string ⟨#[102, 97, 108, 115, 101]⟩] : Array Value).toList = strsV [wBool, nm, wFalse] := by simp only [strsV, List.map]; rw [HN.out]; rfl
   have HVL := Lib.hid hvl; have HCUR := Lib.hid hcur
   clear hvl hcur
   have hia2 : (ia == 1) = false := beq_eq_false_iff_ne.2 hia
   clear hia
   go_wp2_with fail
   go_at_call 54; refine (line_at HH.out hl (by first | exact HB3.out | exact Below.drew (HB3.out)) 0 [wBool, nm, wFalse] #[.string ⟨#[98, 111, 111, 108]⟩, .string N, .string ⟨#[102, 97, 108, 115, 101]⟩] 3 rfl HCUR.out (by omega) (HLE.out _ HVL.out).2).mono ?_; rintro e w9 ⟨rfl, h1, h2, h3⟩
   go_wp2
   go_end0
   exact ⟨rfl, by rw [HVL.out]; exact h1, h2, h3⟩
 have e2 := k1 2 hk2
 by_cases hk3 : kd = 3
 ·subst hk3
  clear e1 hk1 e2 hk2 k1
  have hvl : varL ⟨nm, 3, lo, hi, ik, ia, ib⟩ = some [wPoint, nm, Lib.itoa lo, Lib.itoa hi, ptB ia ib] := rfl
  have hcur : (#[.string ⟨#[112, 111, 105, 110, 116]⟩, .string N, .string ⟨(Lib.itoa lo).toArray⟩, .string ⟨(Lib.itoa hi).toArray⟩, .string ⟨(ptB ia ib).toArray⟩] : Array Value).toList = strsV [wPoint, nm, Lib.itoa lo, Lib.itoa hi, ptB ia ib] := by simp only [strsV, List.map]; rw [HN.out]; rfl
  have HVL := Lib.hid hvl; have HCUR := Lib.hid hcur
  clear hvl hcur
  obtain ⟨e', he'⟩ := pl_made ia ib w3
  obtain ⟨FA, hFA⟩ : ∃ f, floatOfInt .f64 (if (Pl.inB ia && Pl.inB ib) = true then ia else 0) = f := ⟨_, rfl⟩
  obtain ⟨FB, hFB⟩ : ∃ f, floatOfInt .f64 (if (Pl.inB ia && Pl.inB ib) = true then ib else 0) = f := ⟨_, rfl⟩
  rw [hFA, hFB] at HPS he'
  clear hFA hFB
  have HMD := Lib.hid he'
  clear he'
  go_wp2_with fail
  go_at_call 97
  refine HMD.out.mono ?_; rintro e w4 ⟨rfl, h4⟩; subst h4
  go_wp2_with fail
  go_at_call 98
  refine (HPS.out _ HB3.out).mono ?_; rintro e w5 ⟨rfl, hb5⟩
  have hb6 := HB3.out.trans (hb5.mono HB3.out.size)
  replace d0 := (hb5.cell (cell_lt d0)).trans d0
  clear d1 d4 d5 d6
  go_wp2_with fail
  go_at_call 54; refine (line_at HH.out hl (by first | exact hb6 | exact Below.drew (hb6)) 0 [wPoint, nm, Lib.itoa lo, Lib.itoa hi, ptB ia ib] #[.string ⟨#[112, 111, 105, 110, 116]⟩, .string N, .string ⟨(Lib.itoa lo).toArray⟩, .string ⟨(Lib.itoa hi).toArray⟩, .string ⟨(ptB ia ib).toArray⟩] 5 rfl HCUR.out (by omega) (HLE.out _ HVL.out).2).mono ?_; rintro e w9 ⟨rfl, h1, h2, h3⟩
  go_wp2
  go_end0
  exact ⟨rfl, by rw [HVL.out]; exact h1, h2, h3⟩
 have e3 := k1 3 hk3
 have hvl : varL ⟨nm, kd, lo, hi, ik, ia, ib⟩ = none := by unfold varL; rw [if_neg hk1, if_neg hk2, if_neg hk3]
 have HVL := Lib.hid hvl
 clear hvl k1 hk1 hk2 hk3
 go_wp2
 go_end0
 exact ⟨rfl, by rw [HVL.out]; exact HH.out.below HB3.out, KeptB.of_below HB3.out HH.out.le, KeptU.of_below HB3.out⟩
end Go.Proofs.YtdelihhbmagphaaGreatDoor.Ch
