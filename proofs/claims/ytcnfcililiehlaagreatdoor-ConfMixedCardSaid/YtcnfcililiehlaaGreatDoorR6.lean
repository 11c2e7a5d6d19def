/- Own texts, joined: Oz. -/
import Derived.Test.YtcnfcililiehlaaGreatDoorR4
namespace Go.Proofs.YtcnfcililiehlaaGreatDoor
open Go Go.RowKit
namespace Oz
open Ow (Rel eqR beforeB eatsAt eatenB dstAt looksB depB rel acts vals NoWay before_iff dep_of vals_succ vals_at acts_size run_alike countP_lt eatsAt_eaten)
def ownB : Value -> Option Nat
 | .pointer (some a) => some a.block
 | v => v.ownBlock
def shapeB (md : Region.Mode) (ops : Array Oper) (owns : List Bool) (eats : List (Option Nat)) (n : Nat) : Bool :=
 (ops.all fun o => match o.op with | .select .. => false | _ => true) && eats.length == ops.size &&
 (List.range ops.size).all fun i =>
  (match dstAt ops i with | some d => decide (d < n) | none => true) &&
  (match ops[i]? with | some o => o.after.all fun e => !Region.binds md e || decide (e.on < i) | none => false) &&
  (List.range ops.size).all fun j =>
   (i == j || dstAt ops i != dstAt ops j || dstAt ops i == none) &&
   (match dstAt ops j with | some d => !looksB ops i d || beforeB md ops j i || beforeB md ops i j | none => true) &&
   (match eatsAt eats i with
    | some k => owns.getD k false && beforeB md ops k i && (match dstAt ops k with | some d => looksB ops i d | none => false) && (match dstAt ops k with | some d => j == i || !looksB ops j d || beforeB md ops j i | none => false)
    | none => true)
def pickV : Option Tmp -> Value -> Value -> Value
 | none, u, _ => u
 | some _, _, v => v
theorem put_pick (a : Act) (d : Option Tmp) (u v : Value) : a.put d (pickV d u v) = a.put d v := by cases d <;> rfl
def claimV (cl : Nat -> Option Nat) (i : Nat) : Value := match cl i with | some g => .pointer (some ⟨g, 0, none⟩) | none => undef
def eatenV (eats : List (Option Nat)) (cl : Nat -> Option Nat) (vs : List Value) (i : Nat) : Value := match eatsAt eats i with | some k => vs.getD k undef | none => claimV cl i
section
variable (P : Program) (ops : Array Oper) (Q : Exit -> Act -> World -> Prop) (md : Region.Mode) (Rs : List Rel) (owns : List Bool) (eats : List (Option Nat)) (cl : Nat -> Option Nat) (base : Nat)
def slotV (a : Act) (k : Nat) : Value := match dstAt ops k with | some d => a.tmps.getD d undef | none => undef
def valAt (a : Act) (i : Nat) : Value := match dstAt ops i with | some d => a.tmps.getD d undef | none => (match eatsAt eats i with | some k => slotV ops a k | none => claimV cl i)
def rowOf (a : Act) (i : Nat) : Option Nat := match eatsAt eats i with | some k => ownB (valAt ops eats cl a k) | none => cl i
def rowV (vs : List Value) (i : Nat) : Option Nat := match eatsAt eats i with | some k => ownB (vs.getD k undef) | none => cl i
def Good (row : Option Nat) (i : Nat) (w : World) (v : Value) (w' : World) : Prop :=
 rel Rs i v w' /\ w.grownBy w' row /\
 (owns.getD i false = true -> ∀ g, ownB v = some g -> base <= g /\ g < w'.heap.size /\ (w.heap.size <= g \/ row = some g \/ cl i = some g))
def Duty (w0 : World) (i : Nat) (o : Oper) (a : Act) (vs : List Value) : Prop :=
 ∀ w, Below base w0 w -> (∀ k, k < w0.heap.size -> (∀ j, cl j = some k -> j = i) -> w.heap[k]? = w0.heap[k]?) -> (∀ j, depB md ops j i = true -> rel Rs j (vs.getD j undef) w) -> (∀ j, depB md ops j i = true -> owns.getD j false = true -> ∀ g, ownB (vs.getD j undef) = some g -> base <= g) ->
  ∀ K : Act -> World -> Prop, (∀ v w', Good Rs owns cl base (rowV eats cl vs i) i w (pickV o.dst (eatenV eats cl vs i) v) w' -> K (a.put o.dst v) w') ->
   if Region.wanted o (yielded ops a.tmps) = true then Oper.wp P o a w K NoWay else K (a.put o.dst undef) w
def Walk (w0 : World) : List Oper -> Nat -> Act -> List Value -> Prop
 | [], _, a, vs => ∀ w, Below base w0 w -> (∀ k, k < w0.heap.size -> (∀ j, cl j ≠ some k) -> w.heap[k]? = w0.heap[k]?) -> (∀ j, j < ops.size -> eatenB eats j = false -> rel Rs j (vs.getD j undef) w) -> Q .normal a w
 | o :: r, i, a, vs => Duty P ops md Rs owns eats cl base w0 i o a vs /\ ∀ v, Walk w0 r (i + 1) (a.put o.dst v) (vs ++ [pickV o.dst (eatenV eats cl vs i) v])
end
section
variable {P : Program} {ops : Array Oper} {Q : Exit -> Act -> World -> Prop} {md : Region.Mode} {Rs : List Rel} {owns : List Bool} {eats : List (Option Nat)} {cl : Nat -> Option Nat} {base : Nat} {w0 : World}
theorem walk_acts (a0 : Act) (vs : Nat -> Value) (hv : ∀ i, i < ops.size -> pickV (dstAt ops i) (eatenV eats cl (vals vs i) i) (vs i) = vs i) : ∀ (l : List Oper) (i : Nat), (∀ j, l[j]? = ops[i + j]?) -> Walk P ops Q md Rs owns eats cl base w0 l i (acts ops a0 vs i) (vals vs i) ->
 (∀ j o, i <= j -> ops[j]? = some o -> Duty P ops md Rs owns eats cl base w0 j o (acts ops a0 vs j) (vals vs j)) /\ (i <= ops.size -> Walk P ops Q md Rs owns eats cl base w0 [] ops.size (acts ops a0 vs ops.size) (vals vs ops.size)) := by
 intro l
 induction l with
 | nil =>
  intro i hl h;have hs : ops.size <= i := by
   have := hl 0;simp at this;exact this
  refine ⟨fun j o hj ho => ?_, fun hi => ?_⟩
  ·have := (Array.getElem?_eq_some_iff.1 ho).1; omega
  ·have : i = ops.size := by omega
   subst this;exact h
 | cons o r ih =>
  intro i hl h;have h0 : ops[i]? = some o := by have := hl 0; simpa using this.symm
  have hd : dstAt ops i = o.dst := by simp [dstAt, h0]
  have hw := h.2 (vs i);rw [<- hd, hv i (Array.getElem?_eq_some_iff.1 h0).1, <- vals_succ] at hw;obtain ⟨h1, h2⟩ := ih (i + 1) (fun j => by have := hl (j + 1); simp at this; rw [this]; congr 1; omega) hw;refine ⟨fun j p hj hp => ?_, fun _ => h2 (by have := (Array.getElem?_eq_some_iff.1 h0).1; omega)⟩;by_cases hji : j = i
  ·subst hji;obtain rfl : o = p := by rw [h0] at hp; exact Option.some.inj hp
   exact h.1
  ·exact h1 j p (by omega) hp
structure Shape (md : Region.Mode) (ops : Array Oper) (owns : List Bool) (eats : List (Option Nat)) (n : Nat) : Prop where
 sel : ∀ (j : Nat) (o : Oper) cs b, ops[j]? = some o -> o.op ≠ .select cs b
 dst : ∀ i, i < ops.size -> ∀ d, dstAt ops i = some d -> d < n
 eatd : ∀ i k, eatsAt eats i = some k -> ∃ d, dstAt ops k = some d
 back : ∀ i j, beforeB md ops j i = true -> j < i
 apart : ∀ i j d, i < ops.size -> j < ops.size -> i ≠ j -> dstAt ops i = some d -> dstAt ops j ≠ some d
 looks : ∀ i j d, i < ops.size -> j < ops.size -> dstAt ops j = some d -> looksB ops i d = true -> beforeB md ops j i = true \/ beforeB md ops i j = true
 eat : ∀ i k, eatsAt eats i = some k -> i < ops.size /\ owns.getD k false = true /\ beforeB md ops k i = true /\ ∀ j d, j < ops.size -> j ≠ i -> dstAt ops k = some d -> looksB ops j d = true -> beforeB md ops j i = true
 elen : eats.length = ops.size
 eaters : ∀ i k, eatsAt eats i = some k -> ∀ d, dstAt ops k = some d -> looksB ops i d = true
 deps : ∀ i o, ops[i]? = some o -> ∀ e ∈ o.after, Region.binds md e = true -> beforeB md ops e.on i = true
theorem shape_of {n : Nat} (h : shapeB md ops owns eats n = true) : Shape md ops owns eats n := by
 unfold shapeB at h;simp only [Bool.and_eq_true, beq_iff_eq, List.all_eq_true, List.mem_range] at h;obtain ⟨⟨hs, hl⟩, hall⟩ := h;have hback : ∀ i j, beforeB md ops j i = true -> j < i := by
  intro i j hb;obtain ⟨o, ho, e, he, hbi, rfl⟩ := before_iff.1 hb;have hi := (Array.getElem?_eq_some_iff.1 ho).1;obtain ⟨⟨_, h2⟩, _⟩ := hall i hi;rw [ho] at h2;simp only [Array.all_eq_true'] at h2;have := h2 e he;simp [hbi] at this;exact this
 have heat : ∀ i k, eatsAt eats i = some k -> i < ops.size /\ owns.getD k false = true /\ beforeB md ops k i = true /\ ∀ j d, j < ops.size -> j ≠ i -> dstAt ops k = some d -> looksB ops j d = true -> beforeB md ops j i = true := by
  intro i k hk;have hi : i < ops.size := by
   unfold eatsAt at hk;rw [<- hl];rcases Nat.lt_or_ge i eats.length with h | h
   ·exact h
   ·simp [List.getElem?_eq_none h] at hk
  obtain ⟨_, h3⟩ := hall i hi;have h0 := (h3 i hi).2;rw [hk] at h0;simp only [Bool.and_eq_true] at h0;refine ⟨hi, h0.1.1.1, h0.1.1.2, fun j d hj hji hd hlk => ?_⟩;have h4 := (h3 j hj).2;rw [hk] at h4;simp only [Bool.and_eq_true, hd] at h4;have h5 := h4.2;simp [hlk, hji] at h5;exact h5
 refine ⟨?_, ?_, ?_, hback, ?_, ?_, heat, hl, ?_, ?_⟩
 ·intro j o cs b ho hop;simp only [Array.all_eq_true'] at hs;have := hs o (Array.mem_of_getElem? ho);simp [hop] at this
 ·intro i hi d hd;obtain ⟨⟨h1, _⟩, _⟩ := hall i hi;simp [hd] at h1; exact h1
 ·intro i k hk;obtain ⟨hi, _⟩ := heat i k hk;have h4 := ((hall i hi).2 i hi).2;rw [hk] at h4;simp only [Bool.and_eq_true] at h4;have h5 := h4.1.2;cases hd : dstAt ops k with
  | none => rw [hd] at h5; cases h5
  | some d => exact ⟨d, rfl⟩
 ·intro i j d hi hj hij hd;have := (((hall i hi).2 j hj).1).1;simp [hij, hd] at this;exact fun h => this h.symm
 ·intro i j d hi hj hd hlk;have := (((hall i hi).2 j hj).1).2;simp [hd, hlk] at this;exact this
 ·intro i k hk d hd;obtain ⟨hi, _⟩ := heat i k hk;have h4 := ((hall i hi).2 i hi).2;rw [hk] at h4;simp only [Bool.and_eq_true, hd] at h4;exact h4.1.2
 ·intro i o ho e he hb;exact before_iff.2 ⟨o, ho, e, he, hb, rfl⟩
theorem acts_at {n : Nat} (S : Shape md ops owns eats n) (a0 : Act) (hn : a0.tmps.size = n) (vs : Nat -> Value) (d : Nat) : ∀ i, i <= ops.size ->
 (∀ j, j < i -> dstAt ops j = some d -> (acts ops a0 vs i).tmps[d]? = some (vs j)) /\ ((∀ j, j < i -> dstAt ops j ≠ some d) -> (acts ops a0 vs i).tmps[d]? = a0.tmps[d]?)
 | 0, _ => ⟨fun j h => absurd h (by omega), fun _ => rfl⟩
 | i + 1, hi => by
  obtain ⟨h1, h2⟩ := acts_at S a0 hn vs d i (by omega);have hsz := (acts_size (ops := ops) a0 vs i).1;cases he : dstAt ops i with
  | none =>
   have hput : acts ops a0 vs (i + 1) = acts ops a0 vs i := by
    show (acts ops a0 vs i).put (dstAt ops i) (vs i) = _;rw [he]; rfl
   rw [hput];refine ⟨fun j hj hd => ?_, fun h => h2 (fun j hj => h j (by omega))⟩;have : j ≠ i := by
    intro h; subst h;rw [he] at hd; cases hd
   exact h1 j (by omega) hd
  | some e =>
   have hen := S.dst i (by omega) e he;have hput : (acts ops a0 vs (i + 1)).tmps = (acts ops a0 vs i).tmps.setIfInBounds e (vs i) := by
    show ((acts ops a0 vs i).put (dstAt ops i) (vs i)).tmps = _;rw [he]; rfl
   rw [hput];by_cases hed : e = d
   ·subst hed;have hset : ((acts ops a0 vs i).tmps.setIfInBounds e (vs i))[e]? = some (vs i) := by
     rw [Array.getElem?_setIfInBounds_self_of_lt (by rw [hsz, hn]; exact hen)]
    refine ⟨fun j hj hd => ?_, fun h => absurd he (h i (by omega))⟩;have : j = i := by
     rcases Nat.lt_or_ge j i with h | h
     ·exact absurd he (S.apart j i e (by omega) (by omega) (by omega) hd)
     ·omega
    subst this;exact hset
   ·rw [Array.getElem?_setIfInBounds_ne hed];refine ⟨fun j hj hd => ?_, fun h => h2 (fun j hj => h j (by omega))⟩;have : j ≠ i := by
     intro h; subst h;rw [he] at hd; exact hed (Option.some.inj hd)
    exact h1 j (by omega) hd
def Claims (cl : Nat -> Option Nat) (base : Nat) (w0 : World) : Prop := ∀ i g, cl i = some g -> base <= g /\ g < w0.heap.size /\ ∀ j, cl j = some g -> j = i
structure Inv (P : Program) (ops : Array Oper) (md : Region.Mode) (Rs : List Rel) (owns : List Bool) (eats : List (Option Nat)) (cl : Nat -> Option Nat) (base : Nat) (w0 : World) (a0 : Act) (L : Nat -> Bool) (a : Act) (w : World) : Prop where
 below : Below base w0 w
 still : ∀ k, k < w0.heap.size -> (∀ j, j < ops.size -> L j = true -> cl j ≠ some k) -> w.heap[k]? = w0.heap[k]?
 size : a.tmps.size = a0.tmps.size
 defers : a.defers = a0.defers
 rest : ∀ d, (∀ i, i < ops.size -> dstAt ops i = some d -> L i = false) -> a.tmps[d]? = a0.tmps[d]?
 closed : ∀ i j, i < ops.size -> L i = true -> beforeB md ops j i = true -> L j = true
 fact : ∀ i, i < ops.size -> L i = true -> (∀ k, eatsAt eats k = some i -> L k = false) -> rel Rs i (valAt ops eats cl a i) w
 ob : ∀ i, i < ops.size -> L i = true -> owns.getD i false = true -> ∀ g, ownB (valAt ops eats cl a i) = some g -> base <= g /\ g < w.heap.size /\ (w0.heap.size <= g \/ ∃ j, j < ops.size /\ L j = true /\ cl j = some g)
 far : ∀ i j, i < ops.size -> j < ops.size -> i ≠ j -> L i = true -> L j = true -> owns.getD i false = true -> owns.getD j false = true -> (∀ k, eatsAt eats k = some i -> L k = false) -> (∀ k, eatsAt eats k = some j -> L k = false) ->
  ∀ g, ownB (valAt ops eats cl a i) = some g -> ownB (valAt ops eats cl a j) ≠ some g
def Keeps1 (base : Nat) (own : Bool) (R : Rel) : Prop := ∀ v w w' row, R v w -> w.grownBy w' row -> Below base w w' -> (own = true -> ∀ g, row = some g -> ownB v ≠ some g) -> R v w'
theorem slotV_put {n : Nat} (S : Shape md ops owns eats n) {a : Act} {i j : Nat} (hi : i < ops.size) (hj : j < ops.size) (hji : j ≠ i) (v : Value) : slotV ops (a.put (dstAt ops i) v) j = slotV ops a j := by
 cases hd : dstAt ops i with
 | none => rfl
 | some d =>
  unfold slotV;cases he : dstAt ops j with
  | none => rfl
  | some e =>
   have hne : d ≠ e := fun h => S.apart i j d hi hj (Ne.symm hji) hd (by rw [he, h])
   simp only [Act.put, Array.getD_eq_getD_getElem?];rw [Array.getElem?_setIfInBounds_ne hne]
theorem valAt_slot {a : Act} {i d : Nat} (h : dstAt ops i = some d) : valAt ops eats cl a i = slotV ops a i := by unfold valAt slotV; rw [h]
theorem valAt_eat {n : Nat} (S : Shape md ops owns eats n) {a : Act} {i k : Nat} (h : dstAt ops i = none) (hk : eatsAt eats i = some k) : valAt ops eats cl a i = valAt ops eats cl a k := by
 obtain ⟨d, hd⟩ := S.eatd i k hk;rw [valAt_slot hd];unfold valAt;rw [h, hk]
theorem valAt_put {n : Nat} (S : Shape md ops owns eats n) {a : Act} (hn : a.tmps.size = n) {i : Nat} (hi : i < ops.size) (v : Value) (hv : dstAt ops i = none -> v = valAt ops eats cl a i) :
 valAt ops eats cl (a.put (dstAt ops i) v) i = v /\ ∀ j, j < ops.size -> j ≠ i -> eatsAt eats j ≠ some i -> valAt ops eats cl (a.put (dstAt ops i) v) j = valAt ops eats cl a j := by
 constructor
 ·cases hd : dstAt ops i with
  | none => exact (hv hd).symm
  | some d =>
   unfold valAt;rw [hd];have hdn := S.dst i hi d hd;simp [Act.put, Array.getD, hn, hdn]
 ·intro j hj hji hne;cases he : dstAt ops j with
  | some e => rw [valAt_slot he, valAt_slot he, slotV_put S hi hj hji]
  | none =>
   cases hk : eatsAt eats j with
   | none => unfold valAt; rw [he, hk]
   | some k =>
   obtain ⟨e, hke⟩ := S.eatd j k hk;rw [valAt_eat S he hk, valAt_eat S he hk, valAt_slot hke, valAt_slot hke, slotV_put S hi ?_ ?_]
   ·have := S.back _ _ (S.eat j k hk).2.2.1; omega
   ·intro h; subst h; exact hne hk
theorem Inv.step {n : Nat} (S : Shape md ops owns eats n) (hK : ∀ i, i < ops.size -> Keeps1 base (owns.getD i false) (rel Rs i)) {a0 a : Act} (hn : a0.tmps.size = n) {L : Nat -> Bool} {w w' : World}
 (hC : Claims cl base w0) (I : Inv P ops md Rs owns eats cl base w0 a0 L a w) (hbw : base <= w.heap.size) {i : Nat} (hi : i < ops.size) (hL : L i = false) (hdep : ∀ j, beforeB md ops j i = true -> L j = true) {v : Value} (hv : dstAt ops i = none -> v = valAt ops eats cl a i) (G : Good Rs owns cl base (rowOf ops eats cl a i) i w v w') :
 Inv P ops md Rs owns eats cl base w0 a0 (fun j => if j = i then true else L j) (a.put (dstAt ops i) v) w' /\ base <= w'.heap.size := by
 obtain ⟨hR, hg, ho⟩ := G;obtain ⟨hvi, hvj'⟩ := valAt_put S (I.size.trans hn) hi v hv;have hvj : ∀ j, j < ops.size -> j ≠ i -> L j = true -> valAt ops eats cl (a.put (dstAt ops i) v) j = valAt ops eats cl a j := fun j hj hji hLj => hvj' j hj hji fun he => by
  have := I.closed j i hj hLj (S.eat j i he).2.2.1;rw [hL] at this; cases this
 have hrow : ∀ g, rowOf ops eats cl a i = some g -> (∃ k, eatsAt eats i = some k /\ k < i /\ L k = true /\ (∀ m, eatsAt eats m = some k -> L m = false) /\ owns.getD k false = true /\ ownB (valAt ops eats cl a k) = some g) \/ cl i = some g := by
  intro g hgr;unfold rowOf at hgr;cases hk : eatsAt eats i with
  | none => rw [hk] at hgr; exact Or.inr hgr
  | some k =>
   rw [hk] at hgr;refine Or.inl ?_;obtain ⟨_, h1, h2, h3⟩ := S.eat i k hk;refine ⟨k, rfl, S.back _ _ h2, hdep k h2, fun m hm => ?_, h1, hgr⟩;cases hLm : L m with
   | false => rfl
   | true =>
    exfalso;have hms := (S.eat m k hm).1;by_cases hmi : m = i
    ·subst hmi; rw [hL] at hLm; cases hLm
    ·-- both look at k's slot
     obtain ⟨d, hd⟩ := S.eatd i k hk;have hlm : looksB ops i d = true \/ looksB ops i d = false := by cases looksB ops i d <;> simp
     rcases hlm with hli | hli
     ·have := (S.eat m k hm).2.2.2 i d hi (Ne.symm hmi) hd hli;exact absurd (I.closed m i hms hLm this) (by rw [hL]; simp)
     ·have := S.eaters i k hk d hd;rw [hli] at this; cases this
 have hB : Below base w w' := ⟨hg.os, hg.tape, hg.output, hg.size, fun k hk => hg.block k (by omega) (fun e => by
  rcases hrow k e.symm with ⟨j, _, _, h1, _, h2, h3⟩ | h
  ·have := (I.ob j (by omega) h1 h2 k h3).1;omega
  ·have := (hC i k h).1; omega)⟩
 have hother : ∀ j, j < ops.size -> j ≠ i -> L j = true -> (∀ k, (eatsAt eats k = some j) -> (if k = i then true else L k) = false) -> (owns.getD j false = true -> ∀ g, rowOf ops eats cl a i = some g -> ownB (valAt ops eats cl a j) ≠ some g) := by
  intro j hj hji hLj hal hoj g hgr;rcases hrow g hgr with ⟨k, hk, _, h1, h2, h3, h4⟩ | h
  rotate_left
  ·intro hgj;rcases (I.ob j hj hLj hoj g hgj).2.2 with h4 | ⟨j', _, hLj', hc⟩
   ·have := (hC i g h).2.1; omega
   ·have := (hC i g h).2.2 j' hc;subst this;rw [hL] at hLj'; cases hLj'
  have hkj : k ≠ j := by
   intro h; subst h;have := hal i hk;simp at this
  exact I.far k j (by have := S.back _ _ (S.eat i k hk).2.2.1; omega) hj hkj h1 hLj h3 hoj h2 (fun m hm => by have := hal m hm; split at this <;> first | exact this | cases this) g h4
 refine ⟨⟨I.below.trans hB, ?_, ?_, ?_, ?_, ?_, ?_, ?_, ?_⟩, by have := hg.size; omega⟩
 ·intro k hk hkc;have h1 := I.still k hk (fun j hj hLj => hkc j hj (by simp [hLj]));have hks : k < w.heap.size := by have := I.below.size; omega
  rw [<- h1];refine hg.block k hks (fun e => ?_);rcases hrow k e.symm with ⟨j, hje, hji, h1, _, h2, h3⟩ | h
  rotate_left
  ·exact hkc i hi (by simp) h
  rcases (I.ob j (by omega) h1 h2 k h3).2.2 with h4 | ⟨j', hj', hLj', hc⟩
  ·omega
  ·exact hkc j' hj' (by simp [hLj']) hc
 ·rw [<- I.size]; unfold Act.put; cases dstAt ops i <;> simp
 ·rw [<- I.defers]; unfold Act.put; cases dstAt ops i <;> rfl
 ·intro d hd;have hre := I.rest d (fun j hj hjd => by have := hd j hj hjd; split at this <;> first | exact this | cases this);cases he : dstAt ops i with
  | none => exact hre
  | some e =>
   have hne : e ≠ d := fun h => by have := hd i hi (by rw [he, h]); simp at this
   show (a.tmps.setIfInBounds e v)[d]? = _;rw [Array.getElem?_setIfInBounds_ne hne];exact hre
 ·intro j k hj hLj hb;by_cases hji : j = i
  ·subst hji;have := hdep k hb;simp [this]
  ·simp [hji] at hLj;have := I.closed j k hj hLj hb;simp [this]
 ·intro j hj hLj hal;by_cases hji : j = i
  ·subst hji; rw [hvi]; exact hR
  ·simp [hji] at hLj;rw [hvj j hj hji hLj];refine hK j hj _ w w' _ (I.fact j hj hLj (fun k hk => ?_)) hg hB (hother j hj hji hLj hal);have := hal k hk;split at this <;> first | exact this | cases this
 ·intro j hj hLj hoj g hgj;by_cases hji : j = i
  ·subst hji;rw [hvi] at hgj;obtain ⟨o1, o2, o3⟩ := ho hoj g hgj;refine ⟨o1, o2, ?_⟩;rcases o3 with h | h | h
   ·exact Or.inl (by have := I.below.size; omega)
   ·rcases hrow g h with ⟨k, _, hki, h1, _, h2, h3⟩ | h
    rotate_left
    ·exact Or.inr ⟨j, hj, by simp, h⟩
    rcases (I.ob k (by omega) h1 h2 g h3).2.2 with h4 | ⟨j', hj', hLj', hc⟩
    ·exact Or.inl h4
    ·exact Or.inr ⟨j', hj', by simp [hLj'], hc⟩
   ·exact Or.inr ⟨j, hj, by simp, h⟩
  ·simp [hji] at hLj;rw [hvj j hj hji hLj] at hgj;obtain ⟨o1, o2, o3⟩ := I.ob j hj hLj hoj g hgj;refine ⟨o1, by have := hg.size; omega, ?_⟩;rcases o3 with h | ⟨j', hj', hLj', hc⟩
   ·exact Or.inl h
   ·exact Or.inr ⟨j', hj', by simp [hLj'], hc⟩
 ·intro j k hj hk hjk hLj hLk hoj hok hal1 hal2 g hgj hgk;have key : ∀ j, j < ops.size -> j ≠ i -> L j = true -> owns.getD j false = true -> (∀ k, (eatsAt eats k = some j) -> (if k = i then true else L k) = false) -> owns.getD i false = true -> ownB v = some g -> ownB (valAt ops eats cl a j) = some g -> False := by
   intro j hj hji hLj hoj hal hoi hv hgj;rcases (ho hoi g hv).2.2 with h | h | h
   ·have := (I.ob j hj hLj hoj g hgj).2.1; omega
   ·exact hother j hj hji hLj hal hoj g h hgj
   ·rcases (I.ob j hj hLj hoj g hgj).2.2 with h4 | ⟨j', _, hLj', hc⟩
    ·have := (hC i g h).2.1; omega
    ·have := (hC i g h).2.2 j' hc;subst this;rw [hL] at hLj'; cases hLj'
  by_cases hji : j = i
  ·subst hji;have hkj : k ≠ j := Ne.symm hjk;rw [hvi] at hgj;simp [hkj] at hLk;rw [hvj k hk hkj hLk] at hgk;exact key k hk hkj hLk hok hal2 hoj hgj hgk
  ·by_cases hki : k = i
   ·subst hki;rw [hvi] at hgk;simp [hji] at hLj;rw [hvj j hj hji hLj] at hgj;exact key j hj hji hLj hoj hal1 hok hgk hgj
   ·simp [hji] at hLj;simp [hki] at hLk;rw [hvj j hj hji hLj] at hgj;rw [hvj k hk hki hLk] at hgk;exact I.far j k hj hk hjk hLj hLk hoj hok (fun m hm => by have := hal1 m hm; split at this <;> first | exact this | cases this) (fun m hm => by have := hal2 m hm; split at this <;> first | exact this | cases this) g hgj hgk
theorem Inv.agrees {n : Nat} (S : Shape md ops owns eats n) {a0 a : Act} (hn : a0.tmps.size = n) {L : Nat -> Bool} {w : World} (I : Inv P ops md Rs owns eats cl base w0 a0 L a w)
 {i : Nat} (hi : i < ops.size) (hL : L i = false) (_hdep : ∀ j, beforeB md ops j i = true -> L j = true) : ∀ d, looksB ops i d = true -> (acts ops a0 (valAt ops eats cl a) i).tmps[d]? = a.tmps[d]? := by
 intro d hd;obtain ⟨h1, h2⟩ := acts_at S a0 hn (valAt ops eats cl a) d i (by omega);by_cases hj : ∃ j, j < ops.size /\ dstAt ops j = some d
 ·obtain ⟨j, hj, hjd⟩ := hj;have hen := S.dst j hj d hjd;rcases S.looks i j d hi hj hjd hd with hb | hb
  ·rw [h1 j (S.back _ _ hb) hjd];unfold valAt;rw [hjd];have : d < a.tmps.size := by rw [I.size, hn]; exact hen
   simp [Array.getD, this]
  ·have hij := S.back _ _ hb;rw [h2 (fun k hk hkd => S.apart k j d (by omega) hj (by omega) hkd hjd)];refine (I.rest d (fun k hk hkd => ?_)).symm;have : k = j := by
    rcases Nat.decEq k j with h | h
    ·exact absurd hjd (S.apart k j d hk hj h hkd)
    ·exact h
   subst this;cases hLk : L k with
   | false => rfl
   | true => exact absurd (I.closed k i hk hLk hb) (by rw [hL]; simp)
 ·rw [h2 (fun k hk hkd => hj ⟨k, by omega, hkd⟩)];exact (I.rest d (fun k hk hkd => absurd ⟨k, hk, hkd⟩ hj)).symm
theorem oper_alike {o : Oper} {a b : Act} {w : World} (he : execOp a.eval o = execOp b.eval o) {G : Value -> World -> Prop} (hG : ∀ u v w', b.put o.dst u = b.put o.dst v -> G v w' -> G u w')
 (h : Oper.wp P o b w (fun a' w' => ∃ v, a' = b.put o.dst v /\ G v w') NoWay) : Oper.wp P o a w (fun a' w' => ∃ v, a' = a.put o.dst v /\ G v w') Q := by
 unfold Oper.wp at *
 rw [he];generalize (execOp b.eval o).run P w = r at *
 cases r with
 | ok n w' =>
  cases n <;> simp only [Oper.upon] at h ⊢
  case value u =>
   obtain ⟨v, h1, h2⟩ := h;exact ⟨u, rfl, hG _ _ _ h1 h2⟩
  case skip =>
   obtain ⟨v, h1, h2⟩ := h;exact ⟨undef, rfl, hG _ _ _ h1 h2⟩
  case defer x =>
   obtain ⟨v, h1, h2⟩ := h;have := congrArg (fun x => x.defers.length) h1;cases hd : o.dst <;> simp [Act.put, hd] at this
  case enter f args =>
   refine Calls.mono h fun e w'' he => ?_
   cases e with
   | returned u =>
    obtain ⟨v, h1, h2⟩ := he;exact ⟨u, rfl, hG _ _ _ h1 h2⟩
   | panicked c => exact he.elim
   | outgrown => obtain ⟨_, _, hx⟩ := he; exact hx.elim
  case row row args => exact Rows.mono h fun u w'' ⟨v, h1, h2⟩ => ⟨u, rfl, hG _ _ _ h1 h2⟩
 | halt x w' =>
  cases x <;> simp only [Oper.upon] at h ⊢
  case panic u => exact h.elim
theorem any_own {n : Nat} (S : Shape md ops owns eats n) (hK : ∀ i, i < ops.size -> Keeps1 base (owns.getD i false) (rel Rs i)) {a0 : Act} (hn : a0.tmps.size = n) (hC : Claims cl base w0)
 (hW : Walk P ops Q md Rs owns eats cl base w0 ops.toList 0 a0 []) : ∀ (fuel : Nat) (listed : Array Bool) (a : Act) (w : World), listed.size = ops.size -> (List.range ops.size).countP (fun i => !listed.getD i false) <= fuel -> base <= w.heap.size ->
 Inv P ops md Rs owns eats cl base w0 a0 (fun i => listed.getD i false) a w -> wpAny P md ops Q fuel listed a w := by
 have hWv : ∀ vs : Nat -> Value, (∀ i, i < ops.size -> pickV (dstAt ops i) (eatenV eats cl (vals vs i) i) (vs i) = vs i) -> (∀ j o, ops[j]? = some o -> Duty P ops md Rs owns eats cl base w0 j o (acts ops a0 vs j) (vals vs j)) /\ Walk P ops Q md Rs owns eats cl base w0 [] ops.size (acts ops a0 vs ops.size) (vals vs ops.size) := by
  intro vs hv;obtain ⟨h1, h2⟩ := walk_acts a0 vs hv ops.toList 0 (by simp) hW;exact ⟨fun j o ho => h1 j o (Nat.zero_le _) ho, h2 (Nat.zero_le _)⟩
 have hval0 : ∀ (a : Act) i, i < ops.size -> dstAt ops i = none -> eatenV eats cl (vals (valAt ops eats cl a) i) i = valAt ops eats cl a i := by
  intro a i hi hd;unfold eatenV;cases hk : eatsAt eats i with
  | none => unfold valAt; rw [hd, hk]
  | some k =>
  rw [valAt_eat S hd hk];exact vals_at _ (S.back _ _ (S.eat i k hk).2.2.1)
 have hpick : ∀ (a : Act) i, i < ops.size -> pickV (dstAt ops i) (eatenV eats cl (vals (valAt ops eats cl a) i) i) (valAt ops eats cl a i) = valAt ops eats cl a i := by
  intro a i hi;cases hd : dstAt ops i with
  | some d => rfl
  | none => exact hval0 a i hi hd
 have fin : ∀ (listed : Array Bool) (a : Act) (w : World), listed.size = ops.size -> Inv P ops md Rs owns eats cl base w0 a0 (fun i => listed.getD i false) a w -> Region.ready md ops listed = [] -> Q .normal a w := by
  intro listed a w hls I hr;have all : ∀ i, i < ops.size -> listed.getD i false = true := by
   intro i
   induction i using Nat.strongRecOn with
   | _ i ih =>
    intro hi;cases hli : listed.getD i false with
    | true => rfl
    | false =>
     have : i ∈ Region.ready md ops listed := by
      rw [mem_ready];refine ⟨by rw [<- hli]; simp [Array.getD, hls, hi], ops[i], by simp [hi], fun e he hb => ?_⟩;have hbf := S.deps i ops[i] (by simp [hi]) e he hb;exact ih _ (S.back _ _ hbf) (by have := S.back _ _ hbf; omega)
     rw [hr] at this; cases this
  obtain ⟨_, h2⟩ := hWv (valAt ops eats cl a) (hpick a);have hact : acts ops a0 (valAt ops eats cl a) ops.size = a := by
   obtain ⟨s1, s2⟩ := acts_size (ops := ops) a0 (valAt ops eats cl a) ops.size;have ht : (acts ops a0 (valAt ops eats cl a) ops.size).tmps = a.tmps := by
    apply Array.ext_getElem?;intro d;obtain ⟨k1, k2⟩ := acts_at S a0 hn (valAt ops eats cl a) d ops.size (Nat.le_refl _);by_cases hj : ∃ j, j < ops.size /\ dstAt ops j = some d
    ·obtain ⟨j, hj, hjd⟩ := hj;rw [k1 j hj hjd];have hen := S.dst j hj d hjd;unfold valAt;rw [hjd];have : d < a.tmps.size := by rw [I.size, hn]; exact hen
     simp [Array.getD, this]
    ·rw [k2 (fun k hk hkd => hj ⟨k, hk, hkd⟩)];exact (I.rest d (fun k hk hkd => absurd ⟨k, hk, hkd⟩ hj)).symm
   have hdf := s2.trans I.defers.symm;generalize acts ops a0 (valAt ops eats cl a) ops.size = b at *
   obtain ⟨bt, bd⟩ := b;obtain ⟨at', ad⟩ := a;simp at ht hdf;rw [ht, hdf]
  have := h2 w I.below (fun k hk hkc => I.still k hk (fun j _ _ => hkc j));rw [hact] at this;refine this (fun j hj he => by
   rw [vals_at _ hj];exact I.fact j hj (all j hj) (fun k hk => by rw [eatsAt_eaten.2 ⟨k, hk⟩] at he; cases he))
 intro fuel
 induction fuel with
 | zero =>
  intro listed a w hls hc hb I;have hr : Region.ready md ops listed = [] := by
   cases h : Region.ready md ops listed with
   | nil => rfl
   | cons i r =>
    exfalso;have hi : i ∈ Region.ready md ops listed := by rw [h]; simp
    obtain ⟨h0, o, ho, _⟩ := mem_ready.1 hi;have his := (Array.getElem?_eq_some_iff.1 ho).1;have : 0 < (List.range ops.size).countP (fun i => !listed.getD i false) := List.countP_pos_iff.2 ⟨i, List.mem_range.2 his, by
     rw [show listed.getD i false = listed.getD i true by simp [Array.getD, hls, his], h0]; rfl⟩
    omega
  exact ⟨hr, fin listed a w hls I hr⟩
 | succ fuel ih =>
  intro listed a w hls hc hb I;refine ⟨fin listed a w hls I, fun i hi => ?_⟩;obtain ⟨h0, o, ho, hall⟩ := mem_ready.1 hi;have his := (Array.getElem?_eq_some_iff.1 ho).1;have hL : listed.getD i false = false := by rw [show listed.getD i false = listed.getD i true by simp [Array.getD, hls, his], h0]
  have hdep : ∀ j, beforeB md ops j i = true -> listed.getD j false = true := by
   intro j hj;obtain ⟨o', ho', e, he, hbd, rfl⟩ := before_iff.1 hj;obtain rfl : o = o' := by rw [ho] at ho'; exact Option.some.inj ho'
   exact hall e he hbd
  have hds : o.dst = dstAt ops i := by simp [dstAt, ho]
  have hag := I.agrees S hn his hL hdep;obtain ⟨hex, hwt⟩ := run_alike (ops := ops) (o := o) (S.sel i o · · ho) (a := a) (b := acts ops a0 (valAt ops eats cl a) i) (fun d hd => hag d (by unfold looksB; rw [ho]; simpa using hd));have hval : ∀ j, beforeB md ops j i = true -> (vals (valAt ops eats cl a) i).getD j undef = valAt ops eats cl a j := fun j hj => vals_at _ (S.back _ _ hj)
  have hrow : rowV eats cl (vals (valAt ops eats cl a) i) i = rowOf ops eats cl a i := by
   unfold rowV rowOf;cases hk : eatsAt eats i with
   | none => rfl
   | some k =>
    show ownB ((vals (valAt ops eats cl a) i).getD k undef) = ownB (valAt ops eats cl a k);rw [hval k (S.eat i k hk).2.2.1]
  have hnext : ∀ v w', Good Rs owns cl base (rowV eats cl (vals (valAt ops eats cl a) i) i) i w (pickV o.dst (eatenV eats cl (vals (valAt ops eats cl a) i) i) v) w' -> wpAny P md ops Q fuel (listed.setIfInBounds i true) (a.put o.dst v) w' := by
   intro v w' G';rw [hrow] at G';obtain ⟨I', hb'⟩ := Inv.step S hK hn hC I hb his hL hdep (fun hd => by rw [hds, hd]; exact hval0 a i his hd) G';rw [<- hds, put_pick] at I';refine ih _ _ _ (by simp [hls]) ?_ hb' ?_
   ·have : (List.range ops.size).countP (fun j => !(listed.setIfInBounds i true).getD j false) < (List.range ops.size).countP (fun j => !listed.getD j false) := by
     refine countP_lt _ i (List.mem_range.2 his) (by simp [hL]) (by simp [Array.getD, hls, his]) (fun j hj h => ?_);by_cases hji : i = j
     ·subst hji; simp [Array.getD, hls, his] at h
     ·simpa [Array.getD_eq_getD_getElem?, Array.getElem?_setIfInBounds_ne hji] using h
    omega
   ·have hfun : (fun j => (listed.setIfInBounds i true).getD j false) = fun j => if j = i then true else listed.getD j false := by
     funext j
     by_cases hji : j = i
     ·subst hji; simp [Array.getD, hls, his]
     ·simp [Array.getD_eq_getD_getElem?, Array.getElem?_setIfInBounds_ne (Ne.symm hji), hji]
    rw [hfun];exact I'
  have hduty := (hWv (valAt ops eats cl a) (hpick a)).1 i o ho w I.below
   (fun k hk hkc => I.still k hk (fun j _ hLj hc => by
    have := hkc j hc;subst this;have hLj : listed.getD j false = true := hLj;rw [hL] at hLj; cases hLj))
   (fun j hj => by
    obtain ⟨hj, hjl⟩ := dep_of hj;rw [hval j hj];have hji := S.back _ _ hj;refine I.fact j (by omega) (hdep j hj) (fun k hk => ?_);cases hLk : listed.getD k false with
    | false => rfl
    | true =>
     exfalso;have hLk : listed.getD k false = true := hLk;have hks := (S.eat k j hk).1;by_cases hki : k = i
     ·subst hki; rw [hL] at hLk; cases hLk
     ·obtain ⟨e, he⟩ := S.eatd k j hk;have := (S.eat k j hk).2.2.2 i e his (Ne.symm hki) he (hjl e he);have h1 := I.closed k i hks hLk this;have h1 : listed.getD i false = true := h1;rw [hL] at h1; cases h1)
   (fun j hj hoj g hg => by
    obtain ⟨hj, hjl⟩ := dep_of hj;rw [hval j hj] at hg;have hji := S.back _ _ hj;exact (I.ob j (by omega) (hdep j hj) hoj g hg).1)
   (fun a' w' => ∃ v, a' = (acts ops a0 (valAt ops eats cl a) i).put o.dst v /\ Good Rs owns cl base (rowV eats cl (vals (valAt ops eats cl a) i) i) i w (pickV o.dst (eatenV eats cl (vals (valAt ops eats cl a) i) i) v) w') (fun v w' G => ⟨v, rfl, G⟩)
  have hG : ∀ u v w', (acts ops a0 (valAt ops eats cl a) i).put o.dst u = (acts ops a0 (valAt ops eats cl a) i).put o.dst v -> Good Rs owns cl base (rowV eats cl (vals (valAt ops eats cl a) i) i) i w (pickV o.dst (eatenV eats cl (vals (valAt ops eats cl a) i) i) v) w' -> Good Rs owns cl base (rowV eats cl (vals (valAt ops eats cl a) i) i) i w (pickV o.dst (eatenV eats cl (vals (valAt ops eats cl a) i) i) u) w' := by
   intro u v w' huv G;cases hd : o.dst with
   | none => rw [hd] at G; exact G
   | some d =>
    rw [hd] at huv G;have hdn := S.dst i his d (by rw [<- hds]; exact hd);have h1 := congrArg (fun x => x.tmps[d]?) huv;have hsz := (acts_size (ops := ops) a0 (valAt ops eats cl a) i).1;have hlt : d < (acts ops a0 (valAt ops eats cl a) i).tmps.size := by rw [hsz, hn]; exact hdn
    simp [Act.put, hlt] at h1;rw [h1]; exact G
  unfold wpOp;simp only [ho];rw [hwt];split
  ·rename_i hw
   rw [if_pos hw] at hduty;refine Or.inl (Oper.wp_mono (fun a' w' h => ?_) (oper_alike hex hG hduty));obtain ⟨v, rfl, G⟩ := h;exact hnext v w' G
  ·rename_i hw
   rw [if_neg hw] at hduty;obtain ⟨v, h1, G⟩ := hduty;exact hnext undef w (hG _ _ _ h1 G)
theorem region_own {id : Nat} {n : Nat} {a0 : Act} {w : World} (Rs : List Rel) (owns : List Bool) (eats : List (Option Nat)) (cl : Nat -> Option Nat) (base : Nat) (hbs : base <= w.heap.size) (hC : Claims cl base w.drew) (hm : P.follows .mixedOrders = true) (hn : a0.tmps.size = n) (hs : shapeB .any ops owns eats n = true)
 (hK : ∀ i, i < ops.size -> Keeps1 base (owns.getD i false) (rel Rs i)) (hW : Walk P ops Q .any Rs owns eats cl base w.drew ops.toList 0 a0 []) : (Code.region id ops true).wp P Q a0 w := by
 refine wp_region_any hm (any_own (w0 := w.drew) (base := base) (shape_of hs) hK hn hC hW ops.size _ a0 w.drew (by simp) ?_ hbs ?_)
 ·exact Nat.le_trans List.countP_le_length (by simp)
 ·refine ⟨Below.refl _ _, fun _ _ _ => rfl, rfl, rfl, fun _ _ => rfl, ?_, ?_, ?_, ?_⟩
  all_goals
   intros
   rename_i h _
   simp [Array.getD] at *
end
theorem walk_cons {P : Program} {ops : Array Oper} {Q : Exit -> Act -> World -> Prop} {md : Region.Mode} {Rs : List Rel} {owns : List Bool} {eats : List (Option Nat)} {cl : Nat -> Option Nat} {base : Nat} {w0 : World} {l r : List Oper} {o : Oper} {i : Nat} {a : Act} {vs : List Value} {f : Value -> Act} {us : Value -> List Value}
 (hl : l = o :: r) (h : Duty P ops md Rs owns eats cl base w0 i o a vs) (hf : ∀ v, a.put o.dst v = f v) (hu : ∀ v, vs ++ [pickV o.dst (eatenV eats cl vs i) v] = us v) (hr : ∀ v, Walk P ops Q md Rs owns eats cl base w0 r (i + 1) (f v) (us v)) : Walk P ops Q md Rs owns eats cl base w0 l i a vs := by
 subst hl; exact ⟨h, fun v => by rw [hf, hu]; exact hr v⟩
theorem walk_q {P : Program} {ops : Array Oper} {Q : Exit -> Act -> World -> Prop} {md : Region.Mode} {Rs : List Rel} {owns : List Bool} {eats : List (Option Nat)} {cl : Nat -> Option Nat} {base : Nat} {w0 : World} {l r : List Oper} {o : Oper} {i : Nat} {a : Act} {vs : List Value} {f : Value -> Act} {us : Value -> List Value}
 (h : Duty P ops md Rs owns eats cl base w0 i o a vs) (hr : ∀ v, Walk P ops Q md Rs owns eats cl base w0 r (i + 1) (f v) (us v))
 (hl : l = o :: r := by exact rfl) (hf : ∀ v, a.put o.dst v = f v := by intro v; simp only [Act.put, List.setIfInBounds_toArray, List.set_cons_succ, List.set_cons_zero]; exact rfl) (hu : ∀ v, vs ++ [pickV o.dst (eatenV eats cl vs i) v] = us v := by intro v; simp only [Oz.pickV, List.cons_append, List.nil_append]; exact rfl) : Walk P ops Q md Rs owns eats cl base w0 l i a vs :=
 walk_cons hl h hf hu hr
theorem walk_nil {P : Program} {ops : Array Oper} {Q : Exit -> Act -> World -> Prop} {md : Region.Mode} {Rs : List Rel} {owns : List Bool} {eats : List (Option Nat)} {cl : Nat -> Option Nat} {base : Nat} {w0 : World} {l : List Oper} {i : Nat} {a : Act} {vs : List Value}
 (hl : l = []) (h : ∀ w, Below base w0 w -> (∀ k, k < w0.heap.size -> (∀ j, cl j ≠ some k) -> w.heap[k]? = w0.heap[k]?) -> (∀ j, (Nat.blt j ops.size && !eatenB eats j) = true -> rel Rs j (vs.getD j undef) w) -> Q .normal a w) : Walk P ops Q md Rs owns eats cl base w0 l i a vs := by
 subst hl;refine fun w hb hu hd => h w hb hu fun j hj => ?_
 rw [Bool.and_eq_true] at hj;exact hd j (by simpa using hj.1) (by simpa using hj.2)
section
variable {Rs : List Rel} {owns : List Bool} {eats : List (Option Nat)} {cl : Nat -> Option Nat} {base : Nat} {w w' : World} {vs : List Value} {i : Nat} {v : Value}
def KeepsL (base : Nat) : List Bool -> List Rel -> Prop
 | o :: os, R :: rs => Keeps1 base o R /\ KeepsL base os rs
 | [], R :: rs => Keeps1 base false R /\ KeepsL base [] rs
 | _, [] => True
theorem KeepsL.all : ∀ (os : List Bool) (rs : List Rel), KeepsL base os rs -> ∀ i, Keeps1 base (os.getD i false) (rel rs i)
 | o :: os, R :: rs, h, 0 => h.1
 | o :: os, R :: rs, h, i + 1 => KeepsL.all os rs h.2 i
 | [], R :: rs, h, 0 => h.1
 | [], R :: rs, h, i + 1 => KeepsL.all [] rs h.2 i
 | [], [], _, i => fun _ _ _ _ h _ _ _ => by cases i <;> exact h
 | _ :: _, [], _, i => fun _ _ _ _ _ _ _ _ => by simp [rel]
theorem keeps_eq (x : Value) (o : Bool) : Keeps1 base o (eqR x) := fun _ _ _ _ h _ _ _ => h
theorem own_slice {b0 : Nat} {e : TypeId} {size n : Nat} {xs : List Value} (h : w.ownsRow b0 e size v n xs) : ownB v = v.ownBlock := by
 obtain ⟨_, ⟨rfl, _⟩ | ⟨g, cap, cur, rfl, _⟩⟩ := h <;> rfl
theorem keeps_own (b0 : Nat) (e : TypeId) (size n : Nat) (xs : List Value) : Keeps1 base true (fun v w => w.ownsRow b0 e size v n xs) := by
 intro v w w' row h hg _ hne;refine h.kept hg ?_;rw [own_slice h] at hne;cases hv : v.ownBlock with
 | none => exact Or.inl rfl
 | some g => exact Or.inr (fun e => hne rfl g e.symm hv)
def BoxR (b0 : Nat) (t : TypeId) (cs : Array Value) : Rel := fun v w => ∃ b, v = .pointer (some ⟨b, 0, none⟩) /\ b0 <= b /\ w.heap[b]? = some (.cells cs t (0, 0))
theorem keeps_box (b0 : Nat) (t : TypeId) (cs : Array Value) : Keeps1 base true (BoxR b0 t cs) := by
 rintro v w w' row ⟨b, rfl, h0, h⟩ hg _ hne;refine ⟨b, rfl, h0, ?_⟩;rw [hg.block b (Array.getElem?_eq_some_iff.1 h).1 (fun e => hne rfl b e.symm rfl)];exact h
theorem good_same (_h1 : eatsAt eats i = none) (h2 : owns.getD i false = false) (h3 : rel Rs i v w) : Good Rs owns cl base (rowV eats cl vs i) i w v w :=
 ⟨h3, ⟨rfl, rfl, rfl, Nat.le_refl _, fun _ _ _ => rfl⟩, fun h => by rw [h2] at h; cases h⟩
theorem good_new (_h1 : eatsAt eats i = none) (hbase : base <= w.heap.size) (hb : Below w.heap.size w w') (h3 : rel Rs i v w') (ho : ∀ g, ownB v = some g -> w.heap.size <= g /\ g < w'.heap.size) : Good Rs owns cl base (rowV eats cl vs i) i w v w' :=
 ⟨h3, grown_of_below hb _, fun _ g hg => by have := ho g hg; exact ⟨by omega, this.2, Or.inl this.1⟩⟩
theorem good_eat {k : Nat} (h1 : eatsAt eats i = some k) (hbase : base <= w.heap.size) (hg : w.grownBy w' (ownB (vs.getD k undef))) (h3 : rel Rs i v w') (hk : ∀ g, ownB (vs.getD k undef) = some g -> base <= g)
 (hv : (ownB v = ownB (vs.getD k undef) /\ ∀ g, ownB v = some g -> g < w'.heap.size) \/ ∀ g, ownB v = some g -> w.heap.size <= g /\ g < w'.heap.size) : Good Rs owns cl base (rowV eats cl vs i) i w v w' := by
 have hr : rowV eats cl vs i = ownB (vs.getD k undef) := by unfold rowV; rw [h1]
 refine ⟨h3, by rw [hr]; exact hg, fun _ g hgv => ?_⟩;rcases hv with ⟨e, h⟩ | h
 ·exact ⟨hk g (e ▸ hgv), h g hgv, Or.inr (Or.inl (by rw [hr, <- e]; exact hgv))⟩
 ·have := h g hgv;exact ⟨by omega, this.2, Or.inl this.1⟩
theorem own_same {b0 : Nat} {e : TypeId} {size n : Nat} {xs : List Value} (h : w.ownsRow b0 e size v n xs) (hb : ∀ g, v.ownBlock = some g -> w'.heap[g]? = w.heap[g]?) : w'.ownsRow b0 e size v n xs := by
 obtain ⟨h1, ⟨rfl, h2⟩ | ⟨g, cap, cur, rfl, h2, h3, h4⟩⟩ := h
 ·exact ⟨h1, Or.inl ⟨rfl, h2⟩⟩
 ·exact ⟨h1, Or.inr ⟨g, cap, cur, rfl, h2, by rw [hb g rfl]; exact h3, h4⟩⟩
theorem good_claim {b0 : Nat} {e : TypeId} {size n : Nat} {xs : List Value} (_h1 : eatsAt eats i = none) (hbase : base <= b0) (h3 : rel Rs i v w) (hx : w.ownsRow b0 e size v n xs) (hc : cl i = v.ownBlock) : Good Rs owns cl base (rowV eats cl vs i) i w v w := by
 refine ⟨h3, ⟨rfl, rfl, rfl, Nat.le_refl _, fun _ _ _ => rfl⟩, fun _ g hg => ?_⟩;rw [own_slice hx] at hg;have := hx.lt g hg;exact ⟨by omega, this.2, Or.inr (Or.inr (hc.trans hg))⟩
theorem claims_none (base : Nat) (w0 : World) : Claims (fun _ => none) base w0 := fun _ _ h => by cases h
theorem good_row {k : Nat} {b0 b1 : Nat} {e e1 : TypeId} {size n size1 n1 : Nat} {xs xs1 : List Value} (h1 : eatsAt eats i = some k) (hbase : base <= w.heap.size) (hx : w.ownsRow b1 e1 size1 (vs.getD k undef) n1 xs1) (hg : w.grownBy w' (vs.getD k undef).ownBlock) (h3 : rel Rs i v w') (hv3 : w'.ownsRow b0 e size v n xs) (hk : ∀ g, ownB (vs.getD k undef) = some g -> base <= g)
 (hv : (v.ownBlock = (vs.getD k undef).ownBlock /\ ∀ g, v.ownBlock = some g -> g < w'.heap.size) \/ ∀ g, v.ownBlock = some g -> w.heap.size <= g /\ g < w'.heap.size) : Good Rs owns cl base (rowV eats cl vs i) i w v w' := by
 have e1 := own_slice hx;have e2 := own_slice hv3;refine good_eat h1 hbase (by rw [e1]; exact hg) h3 hk ?_;rw [e1, e2]; exact hv
theorem good_box {b0 : Nat} {t : TypeId} {cs : Array Value} (h1 : eatsAt eats i = none) (hb0 : b0 <= base) (hbase : base <= w.heap.size) (h3 : rel Rs i = BoxR b0 t cs) : Good Rs owns cl base (rowV eats cl vs i) i w (.pointer (some ⟨w.heap.size, 0, none⟩)) (w.alloc (.cells cs t)) := by
 refine good_new h1 hbase ((Below.refl _ _).alloc (Nat.le_refl _) _) ?_ ?_
 ·rw [h3]; exact ⟨_, rfl, by omega, heap_alloc_new w _⟩
 ·intro g hg;simp only [ownB, Option.some.injEq] at hg;subst hg; simp
theorem good_put {k b b0 : Nat} {t : TypeId} {cs : Array Value} (h1 : eatsAt eats i = some k) (hx : vs.getD k undef = .pointer (some ⟨b, 0, none⟩)) (hb0 : b0 <= b) (hbase : base <= w.heap.size) (hg : w.grownBy w' (some b)) (h3 : rel Rs i = BoxR b0 t cs) (h4 : w'.heap[b]? = some (.cells cs t (0, 0))) (hk : ∀ g, ownB (vs.getD k undef) = some g -> base <= g) : Good Rs owns cl base (rowV eats cl vs i) i w (vs.getD k undef) w' := by
 have e : ownB (vs.getD k undef) = some b := by rw [hx]; rfl
 refine good_eat h1 hbase (by rw [e]; exact hg) (by rw [h3]; exact ⟨b, hx, hb0, h4⟩) hk (Or.inl ⟨rfl, fun g hg' => ?_⟩);rw [e] at hg';obtain rfl := Option.some.inj hg';exact (Array.getElem?_eq_some_iff.1 h4).1
end
theorem own_laid (w : World) {B : Nat} {e : TypeId} {size n : Nat} (cur : Array Value) (hb : B <= w.heap.size) (hm : n <= maxLen) (hs : cur.size = n * size) : (w.alloc (.cells cur e)).ownsRow B e size (.slice (some ⟨w.heap.size, 0, none⟩) n n) n cur.toList :=
 ⟨by simpa using hs, .inr ⟨w.heap.size, n, cur, rfl, hb, heap_alloc_new w _, Nat.le_refl _, hm, hs, by rw [<- hs, <- Array.length_toList, List.take_length]⟩⟩
theorem good_laid {Rs : List Rel} {owns : List Bool} {eats : List (Option Nat)} {cl : Nat -> Option Nat} {base : Nat} {w : World} {vs : List Value} {i : Nat} {B : Nat} {e : TypeId} {size n : Nat} (cur : Array Value) (h1 : eatsAt eats i = none) (hbase : base <= w.heap.size) (hm : n <= maxLen) (hs : cur.size = n * size) (hb : B <= w.heap.size)
 (h3 : rel Rs i = fun v w => w.ownsRow B e size v n cur.toList) : Good Rs owns cl base (rowV eats cl vs i) i w (.slice (some ⟨w.heap.size, 0, none⟩) n n) (w.alloc (.cells cur e)) := by
 refine good_new h1 hbase ((Below.refl _ _).alloc (Nat.le_refl _) _) ?_ ?_
 ·rw [h3]; exact own_laid w cur hb hm hs
 ·intro g hg;simp only [ownB, Value.ownBlock, Option.some.injEq] at hg;subst hg; simp
def setAll (b : Nat) : Nat -> List Value -> World -> World
 | _, [], w => w
 | k, u :: r, w => setAll b (k + 1) r (w.setCell ⟨b, k, none⟩ u)
theorem setAll_grown (b : Nat) : ∀ (us : List Value) (k : Nat) (w : World), w.grownBy (setAll b k us w) (some b)
 | [], _, w => ⟨rfl, rfl, rfl, Nat.le_refl _, fun _ _ _ => rfl⟩
 | u :: r, k, w => by
  have h := setAll_grown b r (k + 1) (w.setCell ⟨b, k, none⟩ u);have hs : (w.setCell ⟨b, k, none⟩ u).heap.size = w.heap.size := by simp [World.setCell]
  refine ⟨h.os, h.tape, h.output, by rw [<- hs]; exact h.size, fun g hg hne => ?_⟩;have := h.block g (by rw [hs]; exact hg) hne;show (setAll b (k + 1) r (w.setCell ⟨b, k, none⟩ u)).heap[g]? = _;rw [this];exact Below.heap_setCell _ _ _ _ (fun e => hne (congrArg some e))
theorem region_own' {P : Program} {ops : Array Oper} {Q : Exit -> Act -> World -> Prop} {id : Nat} {a0 : Act} {w : World} (n : Nat) (Rs : List Rel) (owns : List Bool) (eats : List (Option Nat)) (hm : P.follows .mixedOrders = true) (hn : a0.tmps.size = n) (hs : shapeB .any ops owns eats n = true)
 (hK : KeepsL w.heap.size owns Rs) (hW : Walk P ops Q .any Rs owns eats (fun _ => none) w.heap.size w.drew ops.toList 0 a0 []) : (Code.region id ops true).wp P Q a0 w :=
 region_own Rs owns eats _ _ (Nat.le_refl _) (claims_none _ _) hm hn hs (fun i _ => KeepsL.all _ _ hK i) hW
end Oz
end Go.Proofs.YtcnfcililiehlaaGreatDoor
