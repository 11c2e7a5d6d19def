/- Own texts, joined: Oc, Bc. -/
import Derived.Test.YtcnfcililiehlaaGreatDoorR6
import Derived.Test.YtcnfcililiehlaaGreatDoorR8
namespace Go.Proofs.YtcnfcililiehlaaGreatDoor
open Go Go.RowKit
namespace Oz
open Ow (Rel eqR beforeB eatsAt eatenB dstAt looksB depB rel acts vals NoWay before_iff dep_of vals_succ vals_at acts_size run_alike countP_lt eatsAt_eaten)
def lastB (md : Region.Mode) (ops : Array Oper) : Bool := (List.range ops.size).all fun j => decide (j + 1 = ops.size) || (List.range ops.size).any fun k => beforeB md ops j k
theorem last_of {md : Region.Mode} {ops : Array Oper} (h : lastB md ops = true) : ∀ j, j + 1 < ops.size -> ∃ k, k < ops.size /\ beforeB md ops j k = true := by
 intro j hj;unfold lastB at h;have h1 := List.all_eq_true.1 h j (List.mem_range.2 (by omega));rw [Bool.or_eq_true] at h1;rcases h1 with h1 | h1
 ·have := of_decide_eq_true h1; omega
 ·obtain ⟨k, hk, hb⟩ := List.any_eq_true.1 h1;exact ⟨k, List.mem_range.1 hk, hb⟩
theorem last_all {L : Nat -> Bool} {N : Nat} {B : Nat -> Nat -> Bool} (hcl : ∀ i j, i < N -> L i = true -> B j i = true -> L j = true) (hb : ∀ j k, B j k = true -> j < k) (hl : ∀ j, j + 1 < N -> ∃ k, k < N /\ B j k = true) (hN : ∀ j, j + 1 = N -> L j = true) : ∀ m k, k < N -> N - k <= m -> L k = true
 | 0, k, hk, hm => by omega
 | m + 1, k, hk, hm => by
  by_cases h : k + 1 = N
  ·exact hN k h
  ·obtain ⟨q, hq, hB⟩ := hl k (by omega);exact hcl q k hq (last_all hcl hb hl hN m q hq (by have := hb k q hB; omega)) hB
section
variable (P : Program) (ops : Array Oper) (Q : Exit -> Act -> World -> Prop) (md : Region.Mode) (Rs : List Rel) (owns : List Bool) (eats : List (Option Nat)) (cl : Nat -> Option Nat) (base : Nat)
def DutyL (w0 : World) (i : Nat) (o : Oper) (a : Act) (vs : List Value) : Prop :=
 ∀ w, Below base w0 w -> (∀ k, k < w0.heap.size -> (∀ j, cl j = some k -> j = i \/ j + 1 = ops.size) -> w.heap[k]? = w0.heap[k]?) -> (∀ j, depB md ops j i = true -> rel Rs j (vs.getD j undef) w) -> (∀ j, depB md ops j i = true -> owns.getD j false = true -> ∀ g, ownB (vs.getD j undef) = some g -> base <= g) ->
  ∀ K : Act -> World -> Prop, (∀ v w', Good Rs owns cl base (rowV eats cl vs i) i w (pickV o.dst (eatenV eats cl vs i) v) w' -> K (a.put o.dst v) w') ->
   if Region.wanted o (yielded ops a.tmps) = true then Oper.wp P o a w K NoWay else K (a.put o.dst undef) w
def WalkL (w0 : World) : List Oper -> Nat -> Act -> List Value -> Prop
 | [], _, a, vs => ∀ w, Below base w0 w -> (∀ k, k < w0.heap.size -> (∀ j, cl j ≠ some k) -> w.heap[k]? = w0.heap[k]?) -> (∀ j, j < ops.size -> eatenB eats j = false -> rel Rs j (vs.getD j undef) w) -> Q .normal a w
 | o :: r, i, a, vs => DutyL P ops md Rs owns eats cl base w0 i o a vs /\ ∀ v, WalkL w0 r (i + 1) (a.put o.dst v) (vs ++ [pickV o.dst (eatenV eats cl vs i) v])
end
section
variable {P : Program} {ops : Array Oper} {Q : Exit -> Act -> World -> Prop} {md : Region.Mode} {Rs : List Rel} {owns : List Bool} {eats : List (Option Nat)} {cl : Nat -> Option Nat} {base : Nat} {w0 : World}
theorem walk_actsL (a0 : Act) (vs : Nat -> Value) (hv : ∀ i, i < ops.size -> pickV (dstAt ops i) (eatenV eats cl (vals vs i) i) (vs i) = vs i) : ∀ (l : List Oper) (i : Nat), (∀ j, l[j]? = ops[i + j]?) -> WalkL P ops Q md Rs owns eats cl base w0 l i (acts ops a0 vs i) (vals vs i) ->
 (∀ j o, i <= j -> ops[j]? = some o -> DutyL P ops md Rs owns eats cl base w0 j o (acts ops a0 vs j) (vals vs j)) /\ (i <= ops.size -> WalkL P ops Q md Rs owns eats cl base w0 [] ops.size (acts ops a0 vs ops.size) (vals vs ops.size)) := by
 intro l
 induction l with
 | nil =>
  intro i hl h;have hs : ops.size <= i := by
   have := hl 0;simp at this;exact this
  refine ⟨fun j o hj ho => ?_, fun hi => ?_⟩
  ·have := (Array.getElem?_eq_some_iff.1 ho).1; omega
  ·have : i = ops.size := by omega
   subst this;exact h
 | cons o r ih =>
  intro i hl h;have h0 : ops[i]? = some o := by have := hl 0; simpa using this.symm
  have hd : dstAt ops i = o.dst := by simp [dstAt, h0]
  have hw := h.2 (vs i);rw [<- hd, hv i (Array.getElem?_eq_some_iff.1 h0).1, <- vals_succ] at hw;obtain ⟨h1, h2⟩ := ih (i + 1) (fun j => by have := hl (j + 1); simp at this; rw [this]; congr 1; omega) hw;refine ⟨fun j p hj hp => ?_, fun _ => h2 (by have := (Array.getElem?_eq_some_iff.1 h0).1; omega)⟩;by_cases hji : j = i
  ·subst hji;obtain rfl : o = p := by rw [h0] at hp; exact Option.some.inj hp
   exact h.1
  ·exact h1 j p (by omega) hp
theorem Inv.stepL {n i : Nat} (S : Shape md ops owns eats n) {a0 a : Act} (hn : a0.tmps.size = n) {L : Nat -> Bool} {w w' : World}
 (hC : Claims cl base w0) (I : Inv P ops md Rs owns eats cl base w0 a0 L a w) (hbw : base <= w.heap.size) (hK : ∀ j, j < ops.size -> j ≠ i -> L j = true -> Keeps1 base (owns.getD j false) (rel Rs j)) (hi : i < ops.size) (hL : L i = false) (hdep : ∀ j, beforeB md ops j i = true -> L j = true) {v : Value} (hv : dstAt ops i = none -> v = valAt ops eats cl a i) (G : Good Rs owns cl base (rowOf ops eats cl a i) i w v w') :
 Inv P ops md Rs owns eats cl base w0 a0 (fun j => if j = i then true else L j) (a.put (dstAt ops i) v) w' /\ base <= w'.heap.size := by
 obtain ⟨hR, hg, ho⟩ := G;obtain ⟨hvi, hvj'⟩ := valAt_put S (I.size.trans hn) hi v hv;have hvj : ∀ j, j < ops.size -> j ≠ i -> L j = true -> valAt ops eats cl (a.put (dstAt ops i) v) j = valAt ops eats cl a j := fun j hj hji hLj => hvj' j hj hji fun he => by
  have := I.closed j i hj hLj (S.eat j i he).2.2.1;rw [hL] at this; cases this
 have hrow : ∀ g, rowOf ops eats cl a i = some g -> (∃ k, eatsAt eats i = some k /\ k < i /\ L k = true /\ (∀ m, eatsAt eats m = some k -> L m = false) /\ owns.getD k false = true /\ ownB (valAt ops eats cl a k) = some g) \/ cl i = some g := by
  intro g hgr;unfold rowOf at hgr;cases hk : eatsAt eats i with
  | none => rw [hk] at hgr; exact Or.inr hgr
  | some k =>
   rw [hk] at hgr;refine Or.inl ?_;obtain ⟨_, h1, h2, h3⟩ := S.eat i k hk;refine ⟨k, rfl, S.back _ _ h2, hdep k h2, fun m hm => ?_, h1, hgr⟩;cases hLm : L m with
   | false => rfl
   | true =>
    exfalso;have hms := (S.eat m k hm).1;by_cases hmi : m = i
    ·subst hmi; rw [hL] at hLm; cases hLm
    ·-- both look at k's slot
     obtain ⟨d, hd⟩ := S.eatd i k hk;have hlm : looksB ops i d = true \/ looksB ops i d = false := by cases looksB ops i d <;> simp
     rcases hlm with hli | hli
     ·have := (S.eat m k hm).2.2.2 i d hi (Ne.symm hmi) hd hli;exact absurd (I.closed m i hms hLm this) (by rw [hL]; simp)
     ·have := S.eaters i k hk d hd;rw [hli] at this; cases this
 have hB : Below base w w' := ⟨hg.os, hg.tape, hg.output, hg.size, fun k hk => hg.block k (by omega) (fun e => by
  rcases hrow k e.symm with ⟨j, _, _, h1, _, h2, h3⟩ | h
  ·have := (I.ob j (by omega) h1 h2 k h3).1;omega
  ·have := (hC i k h).1; omega)⟩
 have hother : ∀ j, j < ops.size -> j ≠ i -> L j = true -> (∀ k, (eatsAt eats k = some j) -> (if k = i then true else L k) = false) -> (owns.getD j false = true -> ∀ g, rowOf ops eats cl a i = some g -> ownB (valAt ops eats cl a j) ≠ some g) := by
  intro j hj hji hLj hal hoj g hgr;rcases hrow g hgr with ⟨k, hk, _, h1, h2, h3, h4⟩ | h
  rotate_left
  ·intro hgj;rcases (I.ob j hj hLj hoj g hgj).2.2 with h4 | ⟨j', _, hLj', hc⟩
   ·have := (hC i g h).2.1; omega
   ·have := (hC i g h).2.2 j' hc;subst this;rw [hL] at hLj'; cases hLj'
  have hkj : k ≠ j := by
   intro h; subst h;have := hal i hk;simp at this
  exact I.far k j (by have := S.back _ _ (S.eat i k hk).2.2.1; omega) hj hkj h1 hLj h3 hoj h2 (fun m hm => by have := hal m hm; split at this <;> first | exact this | cases this) g h4
 refine ⟨⟨I.below.trans hB, ?_, ?_, ?_, ?_, ?_, ?_, ?_, ?_⟩, by have := hg.size; omega⟩
 ·intro k hk hkc;have h1 := I.still k hk (fun j hj hLj => hkc j hj (by simp [hLj]));have hks : k < w.heap.size := by have := I.below.size; omega
  rw [<- h1];refine hg.block k hks (fun e => ?_);rcases hrow k e.symm with ⟨j, hje, hji, h1, _, h2, h3⟩ | h
  rotate_left
  ·exact hkc i hi (by simp) h
  rcases (I.ob j (by omega) h1 h2 k h3).2.2 with h4 | ⟨j', hj', hLj', hc⟩
  ·omega
  ·exact hkc j' hj' (by simp [hLj']) hc
 ·rw [<- I.size]; unfold Act.put; cases dstAt ops i <;> simp
 ·rw [<- I.defers]; unfold Act.put; cases dstAt ops i <;> rfl
 ·intro d hd;have hre := I.rest d (fun j hj hjd => by have := hd j hj hjd; split at this <;> first | exact this | cases this);cases he : dstAt ops i with
  | none => exact hre
  | some e =>
   have hne : e ≠ d := fun h => by have := hd i hi (by rw [he, h]); simp at this
   show (a.tmps.setIfInBounds e v)[d]? = _;rw [Array.getElem?_setIfInBounds_ne hne];exact hre
 ·intro j k hj hLj hb;by_cases hji : j = i
  ·subst hji;have := hdep k hb;simp [this]
  ·simp [hji] at hLj;have := I.closed j k hj hLj hb;simp [this]
 ·intro j hj hLj hal;by_cases hji : j = i
  ·subst hji; rw [hvi]; exact hR
  ·simp [hji] at hLj;rw [hvj j hj hji hLj];refine hK j hj hji hLj _ w w' _ (I.fact j hj hLj (fun k hk => ?_)) hg hB (hother j hj hji hLj hal);have := hal k hk;split at this <;> first | exact this | cases this
 ·intro j hj hLj hoj g hgj;by_cases hji : j = i
  ·subst hji;rw [hvi] at hgj;obtain ⟨o1, o2, o3⟩ := ho hoj g hgj;refine ⟨o1, o2, ?_⟩;rcases o3 with h | h | h
   ·exact Or.inl (by have := I.below.size; omega)
   ·rcases hrow g h with ⟨k, _, hki, h1, _, h2, h3⟩ | h
    rotate_left
    ·exact Or.inr ⟨j, hj, by simp, h⟩
    rcases (I.ob k (by omega) h1 h2 g h3).2.2 with h4 | ⟨j', hj', hLj', hc⟩
    ·exact Or.inl h4
    ·exact Or.inr ⟨j', hj', by simp [hLj'], hc⟩
   ·exact Or.inr ⟨j, hj, by simp, h⟩
  ·simp [hji] at hLj;rw [hvj j hj hji hLj] at hgj;obtain ⟨o1, o2, o3⟩ := I.ob j hj hLj hoj g hgj;refine ⟨o1, by have := hg.size; omega, ?_⟩;rcases o3 with h | ⟨j', hj', hLj', hc⟩
   ·exact Or.inl h
   ·exact Or.inr ⟨j', hj', by simp [hLj'], hc⟩
 ·intro j k hj hk hjk hLj hLk hoj hok hal1 hal2 g hgj hgk;have key : ∀ j, j < ops.size -> j ≠ i -> L j = true -> owns.getD j false = true -> (∀ k, (eatsAt eats k = some j) -> (if k = i then true else L k) = false) -> owns.getD i false = true -> ownB v = some g -> ownB (valAt ops eats cl a j) = some g -> False := by
   intro j hj hji hLj hoj hal hoi hv hgj;rcases (ho hoi g hv).2.2 with h | h | h
   ·have := (I.ob j hj hLj hoj g hgj).2.1; omega
   ·exact hother j hj hji hLj hal hoj g h hgj
   ·rcases (I.ob j hj hLj hoj g hgj).2.2 with h4 | ⟨j', _, hLj', hc⟩
    ·have := (hC i g h).2.1; omega
    ·have := (hC i g h).2.2 j' hc;subst this;rw [hL] at hLj'; cases hLj'
  by_cases hji : j = i
  ·subst hji;have hkj : k ≠ j := Ne.symm hjk;rw [hvi] at hgj;simp [hkj] at hLk;rw [hvj k hk hkj hLk] at hgk;exact key k hk hkj hLk hok hal2 hoj hgj hgk
  ·by_cases hki : k = i
   ·subst hki;rw [hvi] at hgk;simp [hji] at hLj;rw [hvj j hj hji hLj] at hgj;exact key j hj hji hLj hoj hal1 hok hgk hgj
   ·simp [hji] at hLj;simp [hki] at hLk;rw [hvj j hj hji hLj] at hgj;rw [hvj k hk hki hLk] at hgk;exact I.far j k hj hk hjk hLj hLk hoj hok (fun m hm => by have := hal1 m hm; split at this <;> first | exact this | cases this) (fun m hm => by have := hal2 m hm; split at this <;> first | exact this | cases this) g hgj hgk
theorem any_ownL {n : Nat} (S : Shape md ops owns eats n) (hl : lastB md ops = true) (hK : ∀ i, i + 1 < ops.size -> Keeps1 base (owns.getD i false) (rel Rs i)) {a0 : Act} (hn : a0.tmps.size = n) (hC : Claims cl base w0)
 (hW : WalkL P ops Q md Rs owns eats cl base w0 ops.toList 0 a0 []) : ∀ (fuel : Nat) (listed : Array Bool) (a : Act) (w : World), listed.size = ops.size -> (List.range ops.size).countP (fun i => !listed.getD i false) <= fuel -> base <= w.heap.size ->
 Inv P ops md Rs owns eats cl base w0 a0 (fun i => listed.getD i false) a w -> wpAny P md ops Q fuel listed a w := by
 have hWv : ∀ vs : Nat -> Value, (∀ i, i < ops.size -> pickV (dstAt ops i) (eatenV eats cl (vals vs i) i) (vs i) = vs i) -> (∀ j o, ops[j]? = some o -> DutyL P ops md Rs owns eats cl base w0 j o (acts ops a0 vs j) (vals vs j)) /\ WalkL P ops Q md Rs owns eats cl base w0 [] ops.size (acts ops a0 vs ops.size) (vals vs ops.size) := by
  intro vs hv;obtain ⟨h1, h2⟩ := walk_actsL a0 vs hv ops.toList 0 (by simp) hW;exact ⟨fun j o ho => h1 j o (Nat.zero_le _) ho, h2 (Nat.zero_le _)⟩
 have hval0 : ∀ (a : Act) i, i < ops.size -> dstAt ops i = none -> eatenV eats cl (vals (valAt ops eats cl a) i) i = valAt ops eats cl a i := by
  intro a i hi hd;unfold eatenV;cases hk : eatsAt eats i with
  | none => unfold valAt; rw [hd, hk]
  | some k =>
  rw [valAt_eat S hd hk];exact vals_at _ (S.back _ _ (S.eat i k hk).2.2.1)
 have hpick : ∀ (a : Act) i, i < ops.size -> pickV (dstAt ops i) (eatenV eats cl (vals (valAt ops eats cl a) i) i) (valAt ops eats cl a i) = valAt ops eats cl a i := by
  intro a i hi;cases hd : dstAt ops i with
  | some d => rfl
  | none => exact hval0 a i hi hd
 have fin : ∀ (listed : Array Bool) (a : Act) (w : World), listed.size = ops.size -> Inv P ops md Rs owns eats cl base w0 a0 (fun i => listed.getD i false) a w -> Region.ready md ops listed = [] -> Q .normal a w := by
  intro listed a w hls I hr;have all : ∀ i, i < ops.size -> listed.getD i false = true := by
   intro i
   induction i using Nat.strongRecOn with
   | _ i ih =>
    intro hi;cases hli : listed.getD i false with
    | true => rfl
    | false =>
     have : i ∈ Region.ready md ops listed := by
      rw [mem_ready];refine ⟨by rw [<- hli]; simp [Array.getD, hls, hi], ops[i], by simp [hi], fun e he hb => ?_⟩;have hbf := S.deps i ops[i] (by simp [hi]) e he hb;exact ih _ (S.back _ _ hbf) (by have := S.back _ _ hbf; omega)
     rw [hr] at this; cases this
  obtain ⟨_, h2⟩ := hWv (valAt ops eats cl a) (hpick a);have hact : acts ops a0 (valAt ops eats cl a) ops.size = a := by
   obtain ⟨s1, s2⟩ := acts_size (ops := ops) a0 (valAt ops eats cl a) ops.size;have ht : (acts ops a0 (valAt ops eats cl a) ops.size).tmps = a.tmps := by
    apply Array.ext_getElem?;intro d;obtain ⟨k1, k2⟩ := acts_at S a0 hn (valAt ops eats cl a) d ops.size (Nat.le_refl _);by_cases hj : ∃ j, j < ops.size /\ dstAt ops j = some d
    ·obtain ⟨j, hj, hjd⟩ := hj;rw [k1 j hj hjd];have hen := S.dst j hj d hjd;unfold valAt;rw [hjd];have : d < a.tmps.size := by rw [I.size, hn]; exact hen
     simp [Array.getD, this]
    ·rw [k2 (fun k hk hkd => hj ⟨k, hk, hkd⟩)];exact (I.rest d (fun k hk hkd => absurd ⟨k, hk, hkd⟩ hj)).symm
   have hdf := s2.trans I.defers.symm;generalize acts ops a0 (valAt ops eats cl a) ops.size = b at *
   obtain ⟨bt, bd⟩ := b;obtain ⟨at', ad⟩ := a;simp at ht hdf;rw [ht, hdf]
  have := h2 w I.below (fun k hk hkc => I.still k hk (fun j _ _ => hkc j));rw [hact] at this;refine this (fun j hj he => by
   rw [vals_at _ hj];exact I.fact j hj (all j hj) (fun k hk => by rw [eatsAt_eaten.2 ⟨k, hk⟩] at he; cases he))
 intro fuel
 induction fuel with
 | zero =>
  intro listed a w hls hc hb I;have hr : Region.ready md ops listed = [] := by
   cases h : Region.ready md ops listed with
   | nil => rfl
   | cons i r =>
    exfalso;have hi : i ∈ Region.ready md ops listed := by rw [h]; simp
    obtain ⟨h0, o, ho, _⟩ := mem_ready.1 hi;have his := (Array.getElem?_eq_some_iff.1 ho).1;have : 0 < (List.range ops.size).countP (fun i => !listed.getD i false) := List.countP_pos_iff.2 ⟨i, List.mem_range.2 his, by
     rw [show listed.getD i false = listed.getD i true by simp [Array.getD, hls, his], h0]; rfl⟩
    omega
  exact ⟨hr, fin listed a w hls I hr⟩
 | succ fuel ih =>
  intro listed a w hls hc hb I;refine ⟨fin listed a w hls I, fun i hi => ?_⟩;obtain ⟨h0, o, ho, hall⟩ := mem_ready.1 hi;have his := (Array.getElem?_eq_some_iff.1 ho).1;have hL : listed.getD i false = false := by rw [show listed.getD i false = listed.getD i true by simp [Array.getD, hls, his], h0]
  have hdep : ∀ j, beforeB md ops j i = true -> listed.getD j false = true := by
   intro j hj;obtain ⟨o', ho', e, he, hbd, rfl⟩ := before_iff.1 hj;obtain rfl : o = o' := by rw [ho] at ho'; exact Option.some.inj ho'
   exact hall e he hbd
  have hds : o.dst = dstAt ops i := by simp [dstAt, ho]
  have hag := I.agrees S hn his hL hdep;obtain ⟨hex, hwt⟩ := run_alike (ops := ops) (o := o) (S.sel i o · · ho) (a := a) (b := acts ops a0 (valAt ops eats cl a) i) (fun d hd => hag d (by unfold looksB; rw [ho]; simpa using hd));have hval : ∀ j, beforeB md ops j i = true -> (vals (valAt ops eats cl a) i).getD j undef = valAt ops eats cl a j := fun j hj => vals_at _ (S.back _ _ hj)
  have hrow : rowV eats cl (vals (valAt ops eats cl a) i) i = rowOf ops eats cl a i := by
   unfold rowV rowOf;cases hk : eatsAt eats i with
   | none => rfl
   | some k =>
    show ownB ((vals (valAt ops eats cl a) i).getD k undef) = ownB (valAt ops eats cl a k);rw [hval k (S.eat i k hk).2.2.1]
  have hnext : ∀ v w', Good Rs owns cl base (rowV eats cl (vals (valAt ops eats cl a) i) i) i w (pickV o.dst (eatenV eats cl (vals (valAt ops eats cl a) i) i) v) w' -> wpAny P md ops Q fuel (listed.setIfInBounds i true) (a.put o.dst v) w' := by
   intro v w' G';rw [hrow] at G';obtain ⟨I', hb'⟩ := Inv.stepL S hn hC I hb (fun j hj hji hLj => by
    rcases Nat.lt_or_ge (j + 1) ops.size with h | h
    ·exact hK j h
    ·exfalso;have h1 := last_all (L := fun i => listed.getD i false) (N := ops.size) (B := beforeB md ops) (fun i j => I.closed i j) (fun j k => S.back k j) (last_of hl) (fun q hq => by rw [show q = j by omega]; exact hLj) ops.size i his (by omega);have h1 : listed.getD i false = true := h1;rw [hL] at h1; cases h1) his hL hdep (fun hd => by rw [hds, hd]; exact hval0 a i his hd) G'
   rw [<- hds, put_pick] at I';refine ih _ _ _ (by simp [hls]) ?_ hb' ?_
   ·have : (List.range ops.size).countP (fun j => !(listed.setIfInBounds i true).getD j false) < (List.range ops.size).countP (fun j => !listed.getD j false) := by
     refine countP_lt _ i (List.mem_range.2 his) (by simp [hL]) (by simp [Array.getD, hls, his]) (fun j hj h => ?_);by_cases hji : i = j
     ·subst hji; simp [Array.getD, hls, his] at h
     ·simpa [Array.getD_eq_getD_getElem?, Array.getElem?_setIfInBounds_ne hji] using h
    omega
   ·have hfun : (fun j => (listed.setIfInBounds i true).getD j false) = fun j => if j = i then true else listed.getD j false := by
     funext j
     by_cases hji : j = i
     ·subst hji; simp [Array.getD, hls, his]
     ·simp [Array.getD_eq_getD_getElem?, Array.getElem?_setIfInBounds_ne (Ne.symm hji), hji]
    rw [hfun];exact I'
  have hduty := (hWv (valAt ops eats cl a) (hpick a)).1 i o ho w I.below
   (fun k hk hkc => I.still k hk (fun j hj hLj hc => by
    have hLj : listed.getD j false = true := hLj;rcases hkc j hc with rfl | hjl
    ·rw [hL] at hLj; cases hLj
    ·have h1 := last_all (L := fun i => listed.getD i false) (N := ops.size) (B := beforeB md ops) (fun i j => I.closed i j) (fun j k => S.back k j) (last_of hl) (fun q hq => by rw [show q = j by omega]; exact hLj) ops.size i his (by omega);have h1 : listed.getD i false = true := h1;rw [hL] at h1; cases h1))
   (fun j hj => by
    obtain ⟨hj, hjl⟩ := dep_of hj;rw [hval j hj];have hji := S.back _ _ hj;refine I.fact j (by omega) (hdep j hj) (fun k hk => ?_);cases hLk : listed.getD k false with
    | false => rfl
    | true =>
     exfalso;have hLk : listed.getD k false = true := hLk;have hks := (S.eat k j hk).1;by_cases hki : k = i
     ·subst hki; rw [hL] at hLk; cases hLk
     ·obtain ⟨e, he⟩ := S.eatd k j hk;have := (S.eat k j hk).2.2.2 i e his (Ne.symm hki) he (hjl e he);have h1 := I.closed k i hks hLk this;have h1 : listed.getD i false = true := h1;rw [hL] at h1; cases h1)
   (fun j hj hoj g hg => by
    obtain ⟨hj, hjl⟩ := dep_of hj;rw [hval j hj] at hg;have hji := S.back _ _ hj;exact (I.ob j (by omega) (hdep j hj) hoj g hg).1)
   (fun a' w' => ∃ v, a' = (acts ops a0 (valAt ops eats cl a) i).put o.dst v /\ Good Rs owns cl base (rowV eats cl (vals (valAt ops eats cl a) i) i) i w (pickV o.dst (eatenV eats cl (vals (valAt ops eats cl a) i) i) v) w') (fun v w' G => ⟨v, rfl, G⟩)
  have hG : ∀ u v w', (acts ops a0 (valAt ops eats cl a) i).put o.dst u = (acts ops a0 (valAt ops eats cl a) i).put o.dst v -> Good Rs owns cl base (rowV eats cl (vals (valAt ops eats cl a) i) i) i w (pickV o.dst (eatenV eats cl (vals (valAt ops eats cl a) i) i) v) w' -> Good Rs owns cl base (rowV eats cl (vals (valAt ops eats cl a) i) i) i w (pickV o.dst (eatenV eats cl (vals (valAt ops eats cl a) i) i) u) w' := by
   intro u v w' huv G;cases hd : o.dst with
   | none => rw [hd] at G; exact G
   | some d =>
    rw [hd] at huv G;have hdn := S.dst i his d (by rw [<- hds]; exact hd);have h1 := congrArg (fun x => x.tmps[d]?) huv;have hsz := (acts_size (ops := ops) a0 (valAt ops eats cl a) i).1;have hlt : d < (acts ops a0 (valAt ops eats cl a) i).tmps.size := by rw [hsz, hn]; exact hdn
    simp [Act.put, hlt] at h1;rw [h1]; exact G
  unfold wpOp;simp only [ho];rw [hwt];split
  ·rename_i hw
   rw [if_pos hw] at hduty;refine Or.inl (Oper.wp_mono (fun a' w' h => ?_) (oper_alike hex hG hduty));obtain ⟨v, rfl, G⟩ := h;exact hnext v w' G
  ·rename_i hw
   rw [if_neg hw] at hduty;obtain ⟨v, h1, G⟩ := hduty;exact hnext undef w (hG _ _ _ h1 G)
theorem region_ownL {id : Nat} {n : Nat} {a0 : Act} {w : World} (Rs : List Rel) (owns : List Bool) (eats : List (Option Nat)) (cl : Nat -> Option Nat) (base : Nat) (hbs : base <= w.heap.size) (hC : Claims cl base w.drew) (hm : P.follows .mixedOrders = true) (hn : a0.tmps.size = n) (hs : shapeB .any ops owns eats n = true) (hl : lastB .any ops = true)
 (hK : ∀ i, i + 1 < ops.size -> Keeps1 base (owns.getD i false) (rel Rs i)) (hW : WalkL P ops Q .any Rs owns eats cl base w.drew ops.toList 0 a0 []) : (Code.region id ops true).wp P Q a0 w := by
 refine wp_region_any hm (any_ownL (w0 := w.drew) (base := base) (shape_of hs) hl hK hn hC hW ops.size _ a0 w.drew (by simp) ?_ hbs ?_)
 ·exact Nat.le_trans List.countP_le_length (by simp)
 ·refine ⟨Below.refl _ _, fun _ _ _ => rfl, rfl, rfl, fun _ _ => rfl, ?_, ?_, ?_, ?_⟩
  all_goals
   intros
   rename_i h _
   simp [Array.getD] at *
end
theorem walk_consL {P : Program} {ops : Array Oper} {Q : Exit -> Act -> World -> Prop} {md : Region.Mode} {Rs : List Rel} {owns : List Bool} {eats : List (Option Nat)} {cl : Nat -> Option Nat} {base : Nat} {w0 : World} {l r : List Oper} {o : Oper} {i : Nat} {a : Act} {vs : List Value} {f : Value -> Act} {us : Value -> List Value}
 (hl : l = o :: r) (h : DutyL P ops md Rs owns eats cl base w0 i o a vs) (hf : ∀ v, a.put o.dst v = f v) (hu : ∀ v, vs ++ [pickV o.dst (eatenV eats cl vs i) v] = us v) (hr : ∀ v, WalkL P ops Q md Rs owns eats cl base w0 r (i + 1) (f v) (us v)) : WalkL P ops Q md Rs owns eats cl base w0 l i a vs := by
 subst hl; exact ⟨h, fun v => by rw [hf, hu]; exact hr v⟩
theorem walk_qL {P : Program} {ops : Array Oper} {Q : Exit -> Act -> World -> Prop} {md : Region.Mode} {Rs : List Rel} {owns : List Bool} {eats : List (Option Nat)} {cl : Nat -> Option Nat} {base : Nat} {w0 : World} {l r : List Oper} {o : Oper} {i : Nat} {a : Act} {vs : List Value} {f : Value -> Act} {us : Value -> List Value}
 (h : DutyL P ops md Rs owns eats cl base w0 i o a vs) (hr : ∀ v, WalkL P ops Q md Rs owns eats cl base w0 r (i + 1) (f v) (us v))
 (hl : l = o :: r := by exact rfl) (hf : ∀ v, a.put o.dst v = f v := by intro v; simp only [Act.put, List.setIfInBounds_toArray, List.set_cons_succ, List.set_cons_zero]; exact rfl) (hu : ∀ v, vs ++ [pickV o.dst (eatenV eats cl vs i) v] = us v := by intro v; simp only [Oz.pickV, List.cons_append, List.nil_append]; exact rfl) : WalkL P ops Q md Rs owns eats cl base w0 l i a vs :=
 walk_consL hl h hf hu hr
theorem walk_nilL {P : Program} {ops : Array Oper} {Q : Exit -> Act -> World -> Prop} {md : Region.Mode} {Rs : List Rel} {owns : List Bool} {eats : List (Option Nat)} {cl : Nat -> Option Nat} {base : Nat} {w0 : World} {l : List Oper} {i : Nat} {a : Act} {vs : List Value}
 (hl : l = []) (h : ∀ w, Below base w0 w -> (∀ k, k < w0.heap.size -> (∀ j, cl j ≠ some k) -> w.heap[k]? = w0.heap[k]?) -> (∀ j, (Nat.blt j ops.size && !eatenB eats j) = true -> rel Rs j (vs.getD j undef) w) -> Q .normal a w) : WalkL P ops Q md Rs owns eats cl base w0 l i a vs := by
 subst hl;refine fun w hb hu hd => h w hb hu fun j hj => ?_
 rw [Bool.and_eq_true] at hj;exact hd j (by simpa using hj.1) (by simpa using hj.2)
def KeepsI (base : Nat) : List Bool -> List Rel -> Prop
 | o :: os, R :: R' :: rs => Keeps1 base o R /\ KeepsI base os (R' :: rs)
 | _, _ => True
theorem KeepsI.all {base : Nat} : ∀ (os : List Bool) (rs : List Rel), os.length = rs.length -> KeepsI base os rs -> ∀ i, i + 1 < rs.length -> Keeps1 base (os.getD i false) (rel rs i)
 | o :: os, R :: R' :: rs, _, h, 0, _ => h.1
 | o :: os, R :: R' :: rs, hl, h, i + 1, hi => KeepsI.all os (R' :: rs) (by simpa using hl) h.2 i (by simpa using hi)
 | [], [], _, _, _, hi => by simp at hi
 | [_], [_], _, _, _, hi => by simp at hi
def cl2 (v : Value) (b kr kb : Nat) : Nat -> Option Nat := fun i => if i = kr then v.ownBlock else if i = kb then some b else none
theorem cl2_row {v : Value} {b kr kb : Nat} : cl2 v b kr kb kr = v.ownBlock := by simp [cl2]
theorem cl2_cases {v : Value} {b kr kb i g : Nat} (h : cl2 v b kr kb i = some g) : (i = kr /\ v.ownBlock = some g) \/ (i = kb /\ g = b) := by
 unfold cl2 at h;split at h
 ·rename_i hi; exact Or.inl ⟨hi, h⟩
 ·split at h
  ·rename_i hi; exact Or.inr ⟨hi, (Option.some.inj h).symm⟩
  ·cases h
theorem claims_two {base : Nat} {w0 : World} {e : TypeId} {size n : Nat} {xs : List Value} {v : Value} {b kr kb : Nat} (hx : w0.ownsRow base e size v n xs) (hb : base <= b) (hbl : b < w0.heap.size) (hv : v.ownBlock ≠ some b) : Claims (cl2 v b kr kb) base w0 := by
 intro i g h;rcases cl2_cases h with ⟨rfl, h1⟩ | ⟨rfl, rfl⟩
 ·have := hx.lt g h1;refine ⟨this.1, this.2, fun j hj => ?_⟩;rcases cl2_cases hj with ⟨rfl, _⟩ | ⟨_, rfl⟩
  ·rfl
  ·exact absurd h1 hv
 ·refine ⟨hb, hbl, fun j hj => ?_⟩;rcases cl2_cases hj with ⟨_, h2⟩ | ⟨rfl, _⟩
  ·exact absurd h2 hv
  ·rfl
theorem region_two {P : Program} {ops : Array Oper} {Q : Exit -> Act -> World -> Prop} {id : Nat} {a0 : Act} {w : World} (n : Nat) (Rs : List Rel) (owns : List Bool) (eats : List (Option Nat)) (base kr kb b : Nat) {e : TypeId} {size m : Nat} {xs : List Value} (v : Value) (hx : w.ownsRow base e size v m xs) (hv : v.ownBlock ≠ some b) (hb : base <= b) (hbl : b < w.heap.size) (hm : P.follows .mixedOrders = true) (hn : a0.tmps.size = n) (hs : shapeB .any ops owns eats n = true)
 (hl : lastB .any ops = true) (ho : owns.length = Rs.length) (hr : ops.size = Rs.length) (hK : KeepsI base owns Rs) (hW : WalkL P ops Q .any Rs owns eats (cl2 v b kr kb) base w.drew ops.toList 0 a0 []) : (Code.region id ops true).wp P Q a0 w :=
 region_ownL Rs owns eats _ base (by omega) (claims_two (w0 := w.drew) (own_same hx (fun _ _ => rfl)) hb hbl hv) hm hn hs hl (fun i hi => KeepsI.all _ _ ho hK i (by omega)) hW
end Oz
end Go.Proofs.YtcnfcililiehlaaGreatDoor
namespace Go.Proofs.YtcnfcililiehlaaGreatDoor.Ch
open Go.RowKit
structure GrownT (b : Nat) (rv : Value) (w w' : World) : Prop where
 os : w'.os = w.os
 tape : w'.tape = w.tape
 output : w'.output = w.output
 size : w.heap.size <= w'.heap.size
 block : ∀ k, k < w.heap.size -> k ≠ b -> rv.ownBlock ≠ some k -> w'.heap[k]? = w.heap[k]?
theorem GrownT.of_two {b base kr kb : Nat} {rv : Value} {w w1 : World} (hb : Below base w.drew w1) (hu : ∀ k, k < w.drew.heap.size -> (∀ j, Oz.cl2 rv b kr kb j ≠ some k) -> w1.heap[k]? = w.drew.heap[k]?) : GrownT b rv w w1 :=
 ⟨hb.os, hb.tape, hb.output, hb.size, fun k hk hne hrv => hu k hk (fun j hj => by
  rcases Oz.cl2_cases hj with ⟨_, h⟩ | ⟨_, h⟩
  ·exact hrv h
  ·exact hne h)⟩
theorem own_neq {w : World} {B : Nat} {e : TypeId} {size n b : Nat} {v : Value} {xs : List Value} (h : w.ownsRow B e size v n xs) (hb : b < B) : v.ownBlock ≠ some b := by
 intro hv;have := (h.lt b hv).1;omega
theorem own_past {w : World} {B : Nat} {e : TypeId} {size n : Nat} {v : Value} {xs : List Value} {b : Nat} (h : w.ownsRow B e size v n xs) (hb : b < B) (j : Nat) (u : Value) : (w.setCell ⟨b, j, none⟩ u).ownsRow B e size v n xs :=
 Oz.own_same h (fun g hg => Below.heap_setCell _ _ _ _ (by have := (h.lt g hg).1; show g ≠ b; omega))
theorem rows_apart {w : World} {B B' : Nat} {e e' : TypeId} {s s' n n' : Nat} {v v' : Value} {xs xs' : List Value} (h1 : w.ownsRow B e s v n xs) (h2 : w.ownsRow B' e' s' v' n' xs') (hne : e ≠ e') : ∀ g, v.ownBlock = some g -> v'.ownBlock ≠ some g := by
 intro g hv hv';rcases h1.2 with ⟨rfl, _⟩ | ⟨g1, _, c1, rfl, _, k1, _⟩
 ·cases hv
 ·rcases h2.2 with ⟨rfl, _⟩ | ⟨g2, _, c2, rfl, _, k2, _⟩
  ·cases hv'
  ·have e1 : g1 = g := by simpa [Value.ownBlock] using hv
   have e2 : g2 = g := by simpa [Value.ownBlock] using hv'
   subst e1; subst e2;rw [k1] at k2;injection k2 with k2
   injection k2 with _ k2 _
   exact hne k2
theorem GrownT.row {b B : Nat} {rv : Value} {w w' : World} (hG : GrownT b rv w w') {e : TypeId} {size n : Nat} {v : Value} {xs : List Value} (ho : w.ownsRow B e size v n xs) (hb : b < B) (hne : ∀ g, v.ownBlock = some g -> rv.ownBlock ≠ some g) : w'.ownsRow B e size v n xs :=
 Oz.own_same ho (fun g hg => hG.block g (ho.lt g hg).2 (by have := (ho.lt g hg).1; omega) (hne g hg))
theorem GrownT.inner {b B : Nat} {rv : Value} {w w' : World} (hG : GrownT b rv w w') {T e : TypeId} {size n : Nat} {xs : List Value} {cur : Array Value} (hbox : w.heap[b]? = some (.cells cur T (0, 0))) (ho : w.ownsRow B e size rv n xs)
 (hT : T ≠ 116 /\ T ≠ 176) (he : e ≠ 116 /\ e ≠ 176) : KeepI w w' := by
 refine ⟨hG.size, fun k cur' t ht hk => (hG.block k (lt_of_heap hk) ?_ ?_).trans hk⟩
 ·rintro rfl;rw [hbox] at hk;injection hk with hk
  injection hk with _ hk _
  rcases ht with ht | ht
  ·exact hT.1 (hk.trans ht)
  ·exact hT.2 (hk.trans ht)
 ·intro hv;rcases ho.2 with ⟨rfl, _⟩ | ⟨g1, _, c1, rfl, _, k1, _⟩
  ·cases hv
  ·have e1 : g1 = k := by simpa [Value.ownBlock] using hv
   subst e1;rw [k1] at hk;injection hk with hk
   injection hk with _ hk _
   rcases ht with ht | ht
   ·exact he.1 (hk.trans ht)
   ·exact he.2 (hk.trans ht)
theorem GrownT.kept {b B : Nat} {rv : Value} {w w' : World} (hG : GrownT b rv w w') {e : TypeId} {size n : Nat} {xs : List Value} (ho : w.ownsRow B e size rv n xs) (hB : B <= w.heap.size) {cur : Array Value} {T : TypeId} (hbox : w.heap[b]? = some (.cells cur T (0, 0))) : KeptB b B w w' :=
 ⟨hG.os, hG.tape, hG.output, hG.size, fun k hk hb => hG.block k (by omega) hb (fun e => by have := (ho.lt k e).1; omega), fun k o h1 h2 => (hG.block k (lt_of_heap h1) (fun e => by subst e; rw [hbox] at h1; cases h1; cases h2) (fun e => by
  rcases ho.2 with ⟨rfl, _⟩ | ⟨g, _, c1, rfl, _, k1, _⟩
  ·cases e
  ·have e1 : g = k := by simpa [Value.ownBlock] using e
   subst e1; rw [k1] at h1; cases h1; cases h2)).trans h1⟩
section
variable {b B : Nat} {T : TypeId} {w w' : World} {c : CH} {eV vV sV tV v' : Value} {sp : List SP} {tp : List TP}
theorem OwnCh.pushE (h : OwnCh b B T w c eV vV sV tV sp tp) (hT : T ≠ 116 /\ T ≠ 176) (hG : GrownT b eV w w') (hx : w'.heap[b]? = some (.cells #[bstr c.nm, v', vV, sV, tV] T (0, 0)))
 {x : List UInt8} (hr : w'.ownsRow B 9 1 v' (c.es.length + 1) (strsV c.es ++ [bstr x])) : OwnCh b B T w' { c with es := c.es ++ [x] } v' vV sV tV sp tp /\ KeptB b B w w' := by
 have hk := hG.inner h.box h.es hT ⟨by decide, by decide⟩;exact ⟨⟨hx, h.lt, Nat.le_trans h.le hG.size, by simpa [strsV] using hr, hG.row h.vs h.lt (rows_apart h.vs h.es (by decide)), h.ssE, hG.row h.ss h.lt (rows_apart h.ss h.es (by decide)), h.tsE, hG.row h.ts h.lt (rows_apart h.ts h.es (by decide)),
  fun p hp => ⟨(h.sd p hp).1.keep hk, (h.sd p hp).2.keep hk⟩, fun p hp => ⟨(h.td p hp).1.keep hk, (h.td p hp).2.keep hk⟩⟩, hG.kept h.es h.le h.box⟩
theorem OwnCh.pushS (h : OwnCh b B T w c eV vV sV tV sp tp) (hT : T ≠ 116 /\ T ≠ 176) (hG : GrownT b sV w w') (hx : w'.heap[b]? = some (.cells #[bstr c.nm, eV, vV, v', tV] T (0, 0)))
 {p : SP} (hp : BlkO B w p.2.1 p.1.en /\ BlkO B w p.2.2 p.1.ex) (hr : w'.ownsRow B 50 6 v' (sp.length + 1) (flatS sp ++ stV p)) : OwnCh b B T w' { c with ss := c.ss ++ [p.1] } eV vV v' tV (sp ++ [p]) tp /\ KeptB b B w w' := by
 have hk := hG.inner h.box h.ss hT ⟨by decide, by decide⟩;refine ⟨⟨hx, h.lt, Nat.le_trans h.le hG.size, hG.row h.es h.lt (rows_apart h.es h.ss (by decide)), hG.row h.vs h.lt (rows_apart h.vs h.ss (by decide)), by simp [h.ssE], by simpa [flatS] using hr, h.tsE, hG.row h.ts h.lt (rows_apart h.ts h.ss (by decide)),
  fun q hq => ?_, fun p hp => ⟨(h.td p hp).1.keep hk, (h.td p hp).2.keep hk⟩⟩, hG.kept h.ss h.le h.box⟩
 rcases List.mem_append.1 hq with hq | hq
 ·exact ⟨(h.sd q hq).1.keep hk, (h.sd q hq).2.keep hk⟩
 ·rw [List.mem_singleton] at hq; subst hq; exact ⟨hp.1.keep hk, hp.2.keep hk⟩
theorem OwnCh.pushT (h : OwnCh b B T w c eV vV sV tV sp tp) (hT : T ≠ 116 /\ T ≠ 176) (hG : GrownT b tV w w') (hx : w'.heap[b]? = some (.cells #[bstr c.nm, eV, vV, sV, v'] T (0, 0)))
 {p : TP} (hp : GdO B w p.2.1 p.1.gd /\ BlkO B w p.2.2 p.1.ac) (hr : w'.ownsRow B 121 5 v' (tp.length + 1) (flatT tp ++ trV p)) : OwnCh b B T w' { c with ts := c.ts ++ [p.1] } eV vV sV v' sp (tp ++ [p]) /\ KeptB b B w w' := by
 have hk := hG.inner h.box h.ts hT ⟨by decide, by decide⟩;refine ⟨⟨hx, h.lt, Nat.le_trans h.le hG.size, hG.row h.es h.lt (rows_apart h.es h.ts (by decide)), hG.row h.vs h.lt (rows_apart h.vs h.ts (by decide)), h.ssE, hG.row h.ss h.lt (rows_apart h.ss h.ts (by decide)), by simp [h.tsE], by simpa [flatT] using hr,
  fun p hp => ⟨(h.sd p hp).1.keep hk, (h.sd p hp).2.keep hk⟩, fun q hq => ?_⟩, hG.kept h.ts h.le h.box⟩
 rcases List.mem_append.1 hq with hq | hq
 ·exact ⟨(h.td q hq).1.keep hk, (h.td q hq).2.keep hk⟩
 ·rw [List.mem_singleton] at hq; subst hq; exact ⟨hp.1.keep hk, hp.2.keep hk⟩
theorem OwnCh.setN (h : OwnCh b B T w c eV vV sV tV sp tp) (hT : T ≠ 116 /\ T ≠ 176) (x : List UInt8) : OwnCh b B T (w.setCell ⟨b, 0, none⟩ (bstr x)) { c with nm := x } eV vV sV tV sp tp /\ KeptB b B w (w.setCell ⟨b, 0, none⟩ (bstr x)) := by
 have hg := grownBy_setCell' w b (bstr x);have hk := KeepI.of_grown hg h.box hT.1 hT.2;exact ⟨⟨heap_setCell_same _ _ 0 _ _ _ h.box, h.lt, Nat.le_trans h.le hg.size, own_past h.es h.lt _ _, own_past h.vs h.lt _ _, h.ssE, own_past h.ss h.lt _ _, h.tsE, own_past h.ts h.lt _ _,
  fun p hp => ⟨(h.sd p hp).1.keep hk, (h.sd p hp).2.keep hk⟩, fun p hp => ⟨(h.td p hp).1.keep hk, (h.td p hp).2.keep hk⟩⟩, KeptB.of_grown hg h.le (fun g e => Or.inl (Option.some.inj e).symm) (fun g e => by cases e; exact ⟨_, _, _, h.box⟩)⟩
end
section
variable {b B : Nat} {w : World} {c : CH} {eV vV sV tV : Value} {sp : List SP} {tp : List TP}
theorem isNew_any (h : OwnCh b B 67 w c eV vV sV tV sp tp) : Calls Tryz.prog 48 #[.pointer (some ⟨b, 0, none⟩)] w fun e w' => e = .returned (.bool c.nm.isEmpty) /\ w' = w := by
 obtain ⟨b0, _⟩ := h.cells;obtain ⟨N, hN, hNl⟩ := bstr_some c.nm;rw [hN] at b0;have HN := Lib.hid hNl;clear h hN hNl
 go_enter Tryz.func48, Tryz.ntmps48
 go_wp2;go_ret;exact ⟨ret_bool (by rw [<- HN.out, Lib.toList_data]), rfl⟩
structure Bdd (n : Nat) (c : CH) : Prop where
 es : c.es.length <= n
 vs : c.vs.length <= n
 ss : c.ss.length <= n
 ts : c.ts.length <= n
 dp : ∀ s ∈ c.ss, 0 <= s.dp /\ s.dp <= 6000
theorem SP.len (h : sp.map Prod.fst = c.ss) : sp.length = c.ss.length := by rw [<- h, List.length_map]
theorem ss_last (h : sp.map Prod.fst = c.ss) {k : Nat} (hk : sp.length = k + 1) : ∃ hl : k < sp.length, c.ss.getLast? = some (sp[k]).1 := by
 refine ⟨by omega, ?_⟩;have e : sp.length - 1 = k := by omega
 rw [<- h, List.getLast?_map, List.getLast?_eq_getElem?, e];simp [show k < sp.length by omega]
theorem deepest_any (h : OwnCh b B 67 w c eV vV sV tV sp tp) (hB : Bdd 1000000 c) : Calls Tryz.prog 152 #[.pointer (some ⟨b, 0, none⟩)] w fun e w' => e = .returned (.int .i64 (roomC c.ss)) /\ w' = w := by
 obtain ⟨_, _, _, b3, _⟩ := h.cells;obtain ⟨A, cp, rfl⟩ := own_slice h.ss;have hsl := SP.len h.ssE;have hss := hB.ss;rcases Nat.eq_zero_or_pos sp.length with h0 | h0
 ·have hr : roomC c.ss = 0 := by
   have : c.ss = [] := List.eq_nil_of_length_eq_zero (by omega);rw [this]; rfl
  rw [hr];rw [h0] at b3;clear h hB hsl hss hr
  go_enter Tryz.func152, Tryz.ntmps152
  go_wp2;go_ret;exact ⟨rfl, rfl⟩
 ·obtain ⟨k, hk⟩ : ∃ k, sp.length = k + 1 := ⟨sp.length - 1, by omega⟩
  obtain ⟨hkl, hlast⟩ := ss_last h.ssE hk;have hr : roomC c.ss = (sp[k]).1.dp + 1 := by unfold roomC; rw [hlast]
  obtain ⟨bs, o, rfl, _, hc⟩ := (Inn.of_own h.ss).at_ hkl;have c2 := hc 2 _ ((flatM_at stV 6 (fun _ => rfl) hkl (by omega : 2 < 6)).trans rfl);obtain ⟨d1, d2⟩ := hB.dp (sp[k]).1 (List.mem_of_getLast? hlast);rw [hr];rw [hk] at b3;generalize (sp[k]).1.dp = D at *
  have hkm : k < 1000000 := by omega
  clear h hB hsl hss hr hc hlast hkl
  go_enter Tryz.func152, Tryz.ntmps152
  go_wp2;go_ret;exact ⟨by go_num, rfl⟩
end
end Go.Proofs.YtcnfcililiehlaaGreatDoor.Ch
