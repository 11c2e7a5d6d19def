/- Own texts, joined: Ow, Dg, Sp. -/
import Derived.Orders
import Derived.Below
import Derived.Laws.AppendOwn
import Derived.Lib.AtoiTie
import Derived.Lib.ItoaLen
import Derived.Lib.ParseIntBTie
import Derived.Lib.IndexAny
import Derived.Lib.Strings
import Derived.Deep.RegionHeld3
import Derived.Deep.AppendLies
import Derived.StillTailTactics
import Derived.WalkLawsBesides
import Derived.KernelRfl
import Derived.Laws.ComplexArith
import Derived.Deep.QuietTactic
import Derived.BigQuiet
import Derived.Laws.Tables
import Derived.Laws.CopyOwn
import Derived.Lib.BufferOwn
import Derived.Shelf.Small.Utf8
import Derived.Shelf.Small.Strs
import Derived.Shelf.Small.Wraps
import Derived.Shelf.Utf8.RuneCount
import Derived.Shelf.Strconv.Itoa0
import Derived.Shelf.Strconv.Itoa1
import Derived.Shelf.LaysM
import Derived.Shelf.Strconv.Itoa2
import Derived.Shelf.Strconv.Itoa3
import Derived.Shelf.Strconv.Itoa4
import Derived.Shelf.Strconv.ParseIntEmpty
import Derived.Shelf.Strconv.Clone
import Derived.Shelf.Strconv.SyntaxError
import Derived.Shelf.LaysC
import Derived.Shelf.Strconv.ToError
import Derived.Shelf.Strconv.Lower
import Derived.Shelf.Strconv.ParseUint10
import Derived.Shelf.Strconv.ParseUint10Empty
import Derived.Shelf.Strconv.ParseUint10Any
import Derived.Shelf.Strconv.ParseInt10
import Derived.Shelf.Strconv.RangeError
import Derived.Shelf.Strconv.ToErrorRange
import Derived.Shelf.Strconv.ParseUintEmpty
import Derived.Shelf.Strconv.ParseUint10b64
import Derived.Shelf.Strconv.ParseUint10b32
import Derived.Shelf.Strconv.ParseUint10b16
import Derived.Shelf.Strconv.ParseUint10b8
import Derived.Shelf.Strconv.ParseUint10At
import Derived.Shelf.Strconv.ParseInt10At64
import Derived.Shelf.Strconv.ParseInt10At32
import Derived.Shelf.Strconv.ParseInt10At16
import Derived.Shelf.Strconv.ParseInt10At8
import Derived.Shelf.Strconv.ParseInt10All
import Derived.Shelf.Strconv.ParseIntPublic10
import Derived.Shelf.Strconv.ErrVarParseInt
import Derived.Shelf.Strings.Search1
import Derived.Shelf.Strings.Search2
import Derived.Shelf.Strings.Search3
import Derived.Shelf.Strings.Cut
import Derived.Shelf.Strings.Count
import Derived.Shelf.Strings.Shaped
import Derived.Shelf.Strings.Prefix
import Derived.Shelf.Strings.Split
import Derived.Shelf.Strings.SplitShaped
import Derived.Shelf.Unicode.Decode
import Derived.Shelf.Strings.Runes
import Derived.Shelf.Strings.RuneCount
import Derived.Shelf.Strings.IndexAny
import Derived.Shelf.Strings.AsciiSet
import Derived.Shelf.Strings.IndexAnyAll
import Derived.Shelf.Strings.Explode
import Derived.Shelf.Unicode.DecodeSlow
import Derived.Test.YtcnfcililiehlaaGreatDoorProg
import Derived.WalkKit
import Derived.WalkSpells
import Derived.Lib.Hide
import Derived.Lib.OthersKept
import Derived.Lib.RuneCount
import Derived.Deep.LoopGhost
import Derived.Test.YtcnfcililiehlaaGreatDoorRows
namespace Go.Proofs.YtcnfcililiehlaaGreatDoor
open Go Go.RowKit
namespace Ow
abbrev Rel := Value -> World -> Prop
def eqR (x : Value) : Rel := fun v _ => v = x
def beforeB (md : Region.Mode) (ops : Array Oper) (j i : Nat) : Bool := match ops[i]? with | some o => o.after.any fun e => Region.binds md e && e.on == j | none => false
def eatsAt (eats : List (Option Nat)) (i : Nat) : Option Nat := (eats[i]?).getD none
def eatenB (eats : List (Option Nat)) (j : Nat) : Bool := eats.contains (some j)
def dstAt (ops : Array Oper) (i : Nat) : Option Tmp := (ops[i]?).bind (·.dst)
def looksB (ops : Array Oper) (i d : Nat) : Bool := match ops[i]? with | some o => (o.looksAt ops).contains d | none => false
def depB (md : Region.Mode) (ops : Array Oper) (j i : Nat) : Bool := beforeB md ops j i && (match dstAt ops j with | some d => looksB ops i d | none => false)
def shapeB (md : Region.Mode) (ops : Array Oper) (owns : List Bool) (eats : List (Option Nat)) (n : Nat) : Bool :=
 (ops.all fun o => match o.op with | .select .. => false | _ => true) && eats.length == ops.size &&
 (List.range ops.size).all fun i =>
  (match dstAt ops i with | some d => decide (d < n) | none => false) &&
  (match ops[i]? with | some o => o.after.all fun e => !Region.binds md e || decide (e.on < i) | none => false) &&
  (List.range ops.size).all fun j =>
   (i == j || dstAt ops i != dstAt ops j) &&
   (match dstAt ops j with | some d => !looksB ops i d || beforeB md ops j i || beforeB md ops i j | none => false) &&
   (match eatsAt eats i with
    | some k => owns.getD k false && beforeB md ops k i && (match dstAt ops k with | some d => looksB ops i d | none => true) && (match dstAt ops k with | some d => j == i || !looksB ops j d || beforeB md ops j i | none => false)
    | none => true)
section
variable (P : Program) (ops : Array Oper) (Q : Exit -> Act -> World -> Prop) (md : Region.Mode) (Rs : List Rel) (owns : List Bool) (eats : List (Option Nat)) (base : Nat)
def rel (i : Nat) : Rel := (Rs[i]?).getD fun _ _ => True
def valAt (a : Act) (i : Nat) : Value := match dstAt ops i with | some d => a.tmps.getD d undef | none => undef
def rowOf (a : Act) (i : Nat) : Option Nat := match eatsAt eats i with | some k => (valAt ops a k).ownBlock | none => none
def rowV (vs : List Value) (i : Nat) : Option Nat := match eatsAt eats i with | some k => (vs.getD k undef).ownBlock | none => none
def Good (row : Option Nat) (i : Nat) (w : World) (v : Value) (w' : World) : Prop :=
 rel Rs i v w' /\ w.grownBy w' row /\
 (owns.getD i false = true -> ∀ g, v.ownBlock = some g -> base <= g /\ g < w'.heap.size /\ (w.heap.size <= g \/ row = some g))
def NoWay : Exit -> Act -> World -> Prop := fun _ _ _ => False
def Duty (w0 : World) (i : Nat) (o : Oper) (a : Act) (vs : List Value) : Prop :=
 ∀ w, Below base w0 w -> (∀ j, depB md ops j i = true -> rel Rs j (vs.getD j undef) w) -> (∀ j, depB md ops j i = true -> owns.getD j false = true -> ∀ g, (vs.getD j undef).ownBlock = some g -> base <= g) ->
  ∀ K : Act -> World -> Prop, (∀ v w', Good Rs owns base (rowV eats vs i) i w v w' -> K (a.put o.dst v) w') ->
   if Region.wanted o (yielded ops a.tmps) = true then Oper.wp P o a w K NoWay else K (a.put o.dst undef) w
def Walk (w0 : World) : List Oper -> Nat -> Act -> List Value -> Prop
 | [], _, a, vs => ∀ w, Below base w0 w -> (∀ j, j < ops.size -> eatenB eats j = false -> rel Rs j (vs.getD j undef) w) -> Q .normal a w
 | o :: r, i, a, vs => Duty P ops md Rs owns eats base w0 i o a vs /\ ∀ v, Walk w0 r (i + 1) (a.put o.dst v) (vs ++ [v])
end
section
variable {P : Program} {ops : Array Oper} {Q : Exit -> Act -> World -> Prop} {md : Region.Mode} {Rs : List Rel} {owns : List Bool} {eats : List (Option Nat)} {base : Nat} {w0 : World}
def acts (ops : Array Oper) (a0 : Act) (vs : Nat -> Value) : Nat -> Act
 | 0 => a0
 | i + 1 => (acts ops a0 vs i).put (dstAt ops i) (vs i)
def vals (vs : Nat -> Value) (i : Nat) : List Value := (List.range i).map vs
theorem vals_succ (vs : Nat -> Value) (i : Nat) : vals vs (i + 1) = vals vs i ++ [vs i] := by simp [vals, List.range_succ]
theorem vals_at (vs : Nat -> Value) {i j : Nat} (h : j < i) : (vals vs i).getD j undef = vs j := by simp [vals, List.getD, h]
theorem walk_acts (a0 : Act) (vs : Nat -> Value) : ∀ (l : List Oper) (i : Nat), (∀ j, l[j]? = ops[i + j]?) -> Walk P ops Q md Rs owns eats base w0 l i (acts ops a0 vs i) (vals vs i) ->
 (∀ j o, i <= j -> ops[j]? = some o -> Duty P ops md Rs owns eats base w0 j o (acts ops a0 vs j) (vals vs j)) /\ (i <= ops.size -> Walk P ops Q md Rs owns eats base w0 [] ops.size (acts ops a0 vs ops.size) (vals vs ops.size)) := by
 intro l
 induction l with
 | nil =>
  intro i hl h;have hs : ops.size <= i := by
   have := hl 0;simp at this;exact this
  refine ⟨fun j o hj ho => ?_, fun hi => ?_⟩
  ·have := (Array.getElem?_eq_some_iff.1 ho).1; omega
  ·have : i = ops.size := by omega
   subst this;exact h
 | cons o r ih =>
  intro i hl h;have h0 : ops[i]? = some o := by have := hl 0; simpa using this.symm
  have hd : dstAt ops i = o.dst := by simp [dstAt, h0]
  have hw := h.2 (vs i);rw [<- hd, <- vals_succ] at hw;obtain ⟨h1, h2⟩ := ih (i + 1) (fun j => by have := hl (j + 1); simp at this; rw [this]; congr 1; omega) hw;refine ⟨fun j p hj hp => ?_, fun _ => h2 (by have := (Array.getElem?_eq_some_iff.1 h0).1; omega)⟩;by_cases hji : j = i
  ·subst hji;obtain rfl : o = p := by rw [h0] at hp; exact Option.some.inj hp
   exact h.1
  ·exact h1 j p (by omega) hp
theorem acts_size (a0 : Act) (vs : Nat -> Value) : ∀ i, (acts ops a0 vs i).tmps.size = a0.tmps.size /\ (acts ops a0 vs i).defers = a0.defers
 | 0 => ⟨rfl, rfl⟩
 | i + 1 => by
  obtain ⟨h1, h2⟩ := acts_size a0 vs i;unfold acts Act.put;cases dstAt ops i <;> simp [h1, h2]
structure Shape (md : Region.Mode) (ops : Array Oper) (owns : List Bool) (eats : List (Option Nat)) (n : Nat) : Prop where
 sel : ∀ (j : Nat) (o : Oper) cs b, ops[j]? = some o -> o.op ≠ .select cs b
 dst : ∀ i, i < ops.size -> ∃ d, dstAt ops i = some d /\ d < n
 back : ∀ i j, beforeB md ops j i = true -> j < i
 apart : ∀ i j, i < ops.size -> j < ops.size -> i ≠ j -> dstAt ops i ≠ dstAt ops j
 looks : ∀ i j d, i < ops.size -> j < ops.size -> dstAt ops j = some d -> looksB ops i d = true -> beforeB md ops j i = true \/ beforeB md ops i j = true
 eat : ∀ i k, eatsAt eats i = some k -> i < ops.size /\ owns.getD k false = true /\ beforeB md ops k i = true /\ ∀ j d, j < ops.size -> j ≠ i -> dstAt ops k = some d -> looksB ops j d = true -> beforeB md ops j i = true
 elen : eats.length = ops.size
 eaters : ∀ i k, eatsAt eats i = some k -> ∀ d, dstAt ops k = some d -> looksB ops i d = true
 deps : ∀ i o, ops[i]? = some o -> ∀ e ∈ o.after, Region.binds md e = true -> beforeB md ops e.on i = true
theorem before_iff {j i : Nat} : beforeB md ops j i = true ↔ ∃ o, ops[i]? = some o /\ ∃ e ∈ o.after, Region.binds md e = true /\ e.on = j := by
 unfold beforeB;cases h : ops[i]? with
 | none => simp
 | some o => simp only [Array.any_eq_true', Bool.and_eq_true, beq_iff_eq, Option.some.injEq, exists_eq_left']
theorem dep_of {j i : Nat} (h : depB md ops j i = true) : beforeB md ops j i = true /\ ∀ d, dstAt ops j = some d -> looksB ops i d = true := by
 unfold depB at h;rw [Bool.and_eq_true] at h;refine ⟨h.1, fun d hd => ?_⟩;have := h.2;rw [hd] at this;exact this
theorem shape_of {n : Nat} (h : shapeB md ops owns eats n = true) : Shape md ops owns eats n := by
 unfold shapeB at h;simp only [Bool.and_eq_true, beq_iff_eq, List.all_eq_true, List.mem_range] at h;obtain ⟨⟨hs, hl⟩, hall⟩ := h;have hback : ∀ i j, beforeB md ops j i = true -> j < i := by
  intro i j hb;obtain ⟨o, ho, e, he, hbi, rfl⟩ := before_iff.1 hb;have hi := (Array.getElem?_eq_some_iff.1 ho).1;obtain ⟨⟨_, h2⟩, _⟩ := hall i hi;rw [ho] at h2;simp only [Array.all_eq_true'] at h2;have := h2 e he;simp [hbi] at this;exact this
 have heat : ∀ i k, eatsAt eats i = some k -> i < ops.size /\ owns.getD k false = true /\ beforeB md ops k i = true /\ ∀ j d, j < ops.size -> j ≠ i -> dstAt ops k = some d -> looksB ops j d = true -> beforeB md ops j i = true := by
  intro i k hk;have hi : i < ops.size := by
   unfold eatsAt at hk;rw [<- hl];rcases Nat.lt_or_ge i eats.length with h | h
   ·exact h
   ·simp [List.getElem?_eq_none h] at hk
  obtain ⟨_, h3⟩ := hall i hi;have h0 := (h3 i hi).2;rw [hk] at h0;simp only [Bool.and_eq_true] at h0;refine ⟨hi, h0.1.1.1, h0.1.1.2, fun j d hj hji hd hlk => ?_⟩;have h4 := (h3 j hj).2;rw [hk] at h4;simp only [Bool.and_eq_true, hd] at h4;have h5 := h4.2;simp [hlk, hji] at h5;exact h5
 refine ⟨?_, ?_, hback, ?_, ?_, heat, hl, ?_, ?_⟩
 ·intro j o cs b ho hop;simp only [Array.all_eq_true'] at hs;have := hs o (Array.mem_of_getElem? ho);simp [hop] at this
 ·intro i hi;obtain ⟨⟨h1, _⟩, _⟩ := hall i hi;cases hd : dstAt ops i with
  | none => simp [hd] at h1
  | some d => simp [hd] at h1; exact ⟨d, rfl, h1⟩
 ·intro i j hi hj hij;have := (((hall i hi).2 j hj).1).1;simp [hij] at this;exact this
 ·intro i j d hi hj hd hlk;have := (((hall i hi).2 j hj).1).2;simp [hd, hlk] at this;exact this
 ·intro i k hk d hd;obtain ⟨hi, _⟩ := heat i k hk;have h4 := ((hall i hi).2 i hi).2;rw [hk] at h4;simp only [Bool.and_eq_true, hd] at h4;exact h4.1.2
 ·intro i o ho e he hb;exact before_iff.2 ⟨o, ho, e, he, hb, rfl⟩
theorem acts_at {n : Nat} (S : Shape md ops owns eats n) (a0 : Act) (hn : a0.tmps.size = n) (vs : Nat -> Value) (d : Nat) : ∀ i, i <= ops.size ->
 (∀ j, j < i -> dstAt ops j = some d -> (acts ops a0 vs i).tmps[d]? = some (vs j)) /\ ((∀ j, j < i -> dstAt ops j ≠ some d) -> (acts ops a0 vs i).tmps[d]? = a0.tmps[d]?)
 | 0, _ => ⟨fun j h => absurd h (by omega), fun _ => rfl⟩
 | i + 1, hi => by
  obtain ⟨h1, h2⟩ := acts_at S a0 hn vs d i (by omega);obtain ⟨e, he, hen⟩ := S.dst i (by omega);have hsz := (acts_size (ops := ops) a0 vs i).1;have hput : (acts ops a0 vs (i + 1)).tmps = (acts ops a0 vs i).tmps.setIfInBounds e (vs i) := by
   show ((acts ops a0 vs i).put (dstAt ops i) (vs i)).tmps = _;rw [he]; rfl
  rw [hput];by_cases hed : e = d
  ·subst hed;have hset : ((acts ops a0 vs i).tmps.setIfInBounds e (vs i))[e]? = some (vs i) := by
    rw [Array.getElem?_setIfInBounds_self_of_lt (by rw [hsz, hn]; exact hen)]
   refine ⟨fun j hj hd => ?_, fun h => absurd he (h i (by omega))⟩;have : j = i := by
    rcases Nat.lt_or_ge j i with h | h
    ·exact absurd (hd.trans he.symm) (S.apart j i (by omega) (by omega) (by omega))
    ·omega
   subst this;exact hset
  ·rw [Array.getElem?_setIfInBounds_ne hed];refine ⟨fun j hj hd => ?_, fun h => h2 (fun j hj => h j (by omega))⟩;have : j ≠ i := by
    intro h; subst h;rw [he] at hd; exact hed (Option.some.inj hd)
   exact h1 j (by omega) hd
structure Inv (P : Program) (ops : Array Oper) (md : Region.Mode) (Rs : List Rel) (owns : List Bool) (eats : List (Option Nat)) (base : Nat) (w0 : World) (a0 : Act) (L : Nat -> Bool) (a : Act) (w : World) : Prop where
 below : Below base w0 w
 size : a.tmps.size = a0.tmps.size
 defers : a.defers = a0.defers
 rest : ∀ d, (∀ i, i < ops.size -> dstAt ops i = some d -> L i = false) -> a.tmps[d]? = a0.tmps[d]?
 closed : ∀ i j, i < ops.size -> L i = true -> beforeB md ops j i = true -> L j = true
 fact : ∀ i, i < ops.size -> L i = true -> (∀ k, eatsAt eats k = some i -> L k = false) -> rel Rs i (valAt ops a i) w
 ob : ∀ i, i < ops.size -> L i = true -> owns.getD i false = true -> ∀ g, (valAt ops a i).ownBlock = some g -> base <= g /\ g < w.heap.size
 far : ∀ i j, i < ops.size -> j < ops.size -> i ≠ j -> L i = true -> L j = true -> owns.getD i false = true -> owns.getD j false = true -> (∀ k, eatsAt eats k = some i -> L k = false) -> (∀ k, eatsAt eats k = some j -> L k = false) ->
  ∀ g, (valAt ops a i).ownBlock = some g -> (valAt ops a j).ownBlock ≠ some g
def Keeps1 (base : Nat) (own : Bool) (R : Rel) : Prop := ∀ v w w' row, R v w -> w.grownBy w' row -> Below base w w' -> (own = true -> ∀ g, row = some g -> v.ownBlock ≠ some g) -> R v w'
theorem valAt_put {n : Nat} (S : Shape md ops owns eats n) {a : Act} (hn : a.tmps.size = n) {i : Nat} (hi : i < ops.size) (v : Value) :
 valAt ops (a.put (dstAt ops i) v) i = v /\ ∀ j, j < ops.size -> j ≠ i -> valAt ops (a.put (dstAt ops i) v) j = valAt ops a j := by
 obtain ⟨d, hd, hdn⟩ := S.dst i hi;refine ⟨?_, fun j hj hji => ?_⟩
 ·unfold valAt;rw [hd];simp [Act.put, Array.getD, hn, hdn]
 ·obtain ⟨e, he, hen⟩ := S.dst j hj;have hne : d ≠ e := fun h => S.apart i j hi hj (Ne.symm hji) (by rw [hd, he, h])
  unfold valAt;rw [he, hd];simp only [Act.put, Array.getD_eq_getD_getElem?];rw [Array.getElem?_setIfInBounds_ne hne]
theorem Inv.step {n : Nat} (S : Shape md ops owns eats n) (hK : ∀ i, i < ops.size -> Keeps1 base (owns.getD i false) (rel Rs i)) {a0 a : Act} (hn : a0.tmps.size = n) {L : Nat -> Bool} {w w' : World}
 (I : Inv P ops md Rs owns eats base w0 a0 L a w) (hbw : base <= w.heap.size) {i : Nat} (hi : i < ops.size) (hL : L i = false) (hdep : ∀ j, beforeB md ops j i = true -> L j = true) {v : Value} (G : Good Rs owns base (rowOf ops eats a i) i w v w') :
 Inv P ops md Rs owns eats base w0 a0 (fun j => if j = i then true else L j) (a.put (dstAt ops i) v) w' /\ base <= w'.heap.size := by
 obtain ⟨hR, hg, ho⟩ := G;obtain ⟨hvi, hvj⟩ := valAt_put S (I.size.trans hn) hi v;have hrow : ∀ g, rowOf ops eats a i = some g -> ∃ k, eatsAt eats i = some k /\ k < i /\ L k = true /\ (∀ m, eatsAt eats m = some k -> L m = false) /\ owns.getD k false = true /\ (valAt ops a k).ownBlock = some g := by
  intro g hgr;unfold rowOf at hgr;cases hk : eatsAt eats i with
  | none => rw [hk] at hgr; cases hgr
  | some k =>
   rw [hk] at hgr;obtain ⟨_, h1, h2, h3⟩ := S.eat i k hk;refine ⟨k, rfl, S.back _ _ h2, hdep k h2, fun m hm => ?_, h1, hgr⟩;cases hLm : L m with
   | false => rfl
   | true =>
    exfalso;have hms := (S.eat m k hm).1;by_cases hmi : m = i
    ·subst hmi; rw [hL] at hLm; cases hLm
    ·-- both look at k's slot
     obtain ⟨d, hd, _⟩ := S.dst k (by have := S.back _ _ h2; omega);have hlm : looksB ops i d = true \/ looksB ops i d = false := by cases looksB ops i d <;> simp
     rcases hlm with hli | hli
     ·have := (S.eat m k hm).2.2.2 i d hi (Ne.symm hmi) hd hli;exact absurd (I.closed m i hms hLm this) (by rw [hL]; simp)
     ·have := S.eaters i k hk d hd;rw [hli] at this; cases this
 have hB : Below base w w' := ⟨hg.os, hg.tape, hg.output, hg.size, fun k hk => hg.block k (by omega) (fun e => by
  obtain ⟨j, _, _, h1, _, h2, h3⟩ := hrow k e.symm;have := (I.ob j (by omega) h1 h2 k h3).1;omega)⟩
 have hother : ∀ j, j < ops.size -> j ≠ i -> L j = true -> (∀ k, (eatsAt eats k = some j) -> (if k = i then true else L k) = false) -> (owns.getD j false = true -> ∀ g, rowOf ops eats a i = some g -> (valAt ops a j).ownBlock ≠ some g) := by
  intro j hj hji hLj hal hoj g hgr;obtain ⟨k, hk, _, h1, h2, h3, h4⟩ := hrow g hgr;have hkj : k ≠ j := by
   intro h; subst h;have := hal i hk;simp at this
  exact I.far k j (by have := S.back _ _ (S.eat i k hk).2.2.1; omega) hj hkj h1 hLj h3 hoj h2 (fun m hm => by have := hal m hm; split at this <;> first | exact this | cases this) g h4
 refine ⟨⟨I.below.trans hB, ?_, ?_, ?_, ?_, ?_, ?_, ?_⟩, by have := hg.size; omega⟩
 ·rw [<- I.size]; unfold Act.put; cases dstAt ops i <;> simp
 ·rw [<- I.defers]; unfold Act.put; cases dstAt ops i <;> rfl
 ·intro d hd;obtain ⟨e, he, _⟩ := S.dst i hi;have hne : e ≠ d := fun h => by have := hd i hi (by rw [he, h]); simp at this
  rw [he];show (a.tmps.setIfInBounds e v)[d]? = _;rw [Array.getElem?_setIfInBounds_ne hne];exact I.rest d (fun j hj hjd => by have := hd j hj hjd; split at this <;> first | exact this | cases this)
 ·intro j k hj hLj hb;by_cases hji : j = i
  ·subst hji;have := hdep k hb;simp [this]
  ·simp [hji] at hLj;have := I.closed j k hj hLj hb;simp [this]
 ·intro j hj hLj hal;by_cases hji : j = i
  ·subst hji; rw [hvi]; exact hR
  ·rw [hvj j hj hji];simp [hji] at hLj;refine hK j hj _ w w' _ (I.fact j hj hLj (fun k hk => ?_)) hg hB (hother j hj hji hLj hal);have := hal k hk;split at this <;> first | exact this | cases this
 ·intro j hj hLj hoj g hgj;by_cases hji : j = i
  ·subst hji;rw [hvi] at hgj;have := ho hoj g hgj;exact ⟨this.1, this.2.1⟩
  ·rw [hvj j hj hji] at hgj;simp [hji] at hLj;have := I.ob j hj hLj hoj g hgj;exact ⟨this.1, by have := hg.size; omega⟩
 ·intro j k hj hk hjk hLj hLk hoj hok hal1 hal2 g hgj hgk;have key : ∀ j, j < ops.size -> j ≠ i -> L j = true -> owns.getD j false = true -> (∀ k, (eatsAt eats k = some j) -> (if k = i then true else L k) = false) -> owns.getD i false = true -> v.ownBlock = some g -> (valAt ops a j).ownBlock = some g -> False := by
   intro j hj hji hLj hoj hal hoi hv hgj;rcases (ho hoi g hv).2.2 with h | h
   ·have := (I.ob j hj hLj hoj g hgj).2; omega
   ·exact hother j hj hji hLj hal hoj g h hgj
  by_cases hji : j = i
  ·subst hji;have hkj : k ≠ j := Ne.symm hjk;rw [hvi] at hgj;rw [hvj k hk hkj] at hgk;simp [hkj] at hLk;exact key k hk hkj hLk hok hal2 hoj hgj hgk
  ·by_cases hki : k = i
   ·subst hki;rw [hvi] at hgk;rw [hvj j hj hji] at hgj;simp [hji] at hLj;exact key j hj hji hLj hoj hal1 hok hgk hgj
   ·rw [hvj j hj hji] at hgj;rw [hvj k hk hki] at hgk;simp [hji] at hLj;simp [hki] at hLk;exact I.far j k hj hk hjk hLj hLk hoj hok (fun m hm => by have := hal1 m hm; split at this <;> first | exact this | cases this) (fun m hm => by have := hal2 m hm; split at this <;> first | exact this | cases this) g hgj hgk
theorem eatsAt_eaten {j : Nat} : eatenB eats j = true ↔ ∃ i, eatsAt eats i = some j := by
 unfold eatenB eatsAt;rw [List.contains_iff_mem, List.mem_iff_getElem?];constructor
 ·rintro ⟨i, h⟩; exact ⟨i, by rw [h]; rfl⟩
 ·rintro ⟨i, h⟩;cases h' : eats[i]? with
  | none => rw [h'] at h; cases h
  | some x => rw [h'] at h; exact ⟨i, by rw [h']; exact congrArg some h⟩
theorem Inv.agrees {n : Nat} (S : Shape md ops owns eats n) {a0 a : Act} (hn : a0.tmps.size = n) {L : Nat -> Bool} {w : World} (I : Inv P ops md Rs owns eats base w0 a0 L a w)
 {i : Nat} (hi : i < ops.size) (hL : L i = false) (_hdep : ∀ j, beforeB md ops j i = true -> L j = true) : ∀ d, looksB ops i d = true -> (acts ops a0 (valAt ops a) i).tmps[d]? = a.tmps[d]? := by
 intro d hd;obtain ⟨h1, h2⟩ := acts_at S a0 hn (valAt ops a) d i (by omega);by_cases hj : ∃ j, j < ops.size /\ dstAt ops j = some d
 ·obtain ⟨j, hj, hjd⟩ := hj;obtain ⟨e, he, hen⟩ := S.dst j hj;obtain rfl : e = d := by rw [hjd] at he; exact (Option.some.inj he).symm
  rcases S.looks i j e hi hj hjd hd with hb | hb
  ·rw [h1 j (S.back _ _ hb) hjd];unfold valAt;rw [hjd];have : e < a.tmps.size := by rw [I.size, hn]; exact hen
   simp [Array.getD, this]
  ·have hij := S.back _ _ hb;rw [h2 (fun k hk hkd => S.apart k j (by omega) hj (by omega) (by rw [hkd, hjd]))];refine (I.rest e (fun k hk hkd => ?_)).symm;have : k = j := by
    rcases Nat.decEq k j with h | h
    ·exact absurd (hkd.trans hjd.symm) (S.apart k j hk hj h)
    ·exact h
   subst this;cases hLk : L k with
   | false => rfl
   | true => exact absurd (I.closed k i hk hLk hb) (by rw [hL]; simp)
 ·rw [h2 (fun k hk hkd => hj ⟨k, by omega, hkd⟩)];exact (I.rest d (fun k hk hkd => absurd ⟨k, hk, hkd⟩ hj)).symm
theorem run_alike {o : Oper} (hs : ∀ cs b, o.op ≠ .select cs b) {a b : Act} (h : ∀ d, d ∈ o.looksAt ops -> b.tmps[d]? = a.tmps[d]?) :
 execOp a.eval o = execOp b.eval o /\ Region.wanted o (yielded ops a.tmps) = Region.wanted o (yielded ops b.tmps) := by
 constructor
 ·refine execOp_congr o hs fun x hx => ?_
  cases x with
  | tmp t =>
   show a.tmps.getD t undef = b.tmps.getD t undef;rw [Array.getD_eq_getD_getElem?, Array.getD_eq_getD_getElem?, h t (List.mem_append_left _ (List.mem_filterMap.2 ⟨.tmp t, by simpa using hx, rfl⟩))]
  | _ => rfl
 ·unfold Region.wanted;cases hg : o.guard with
  | none => rfl
  | some gw =>
   obtain ⟨g, want⟩ := gw;have hy : yielded ops a.tmps g = yielded ops b.tmps g := by
    unfold yielded;cases ht : (ops[g]?).bind (·.dst) with
    | none => rfl
    | some t =>
     have := h t (List.mem_append_right _ (by simp [hg, ht]));simp [this]
   simp only [hy]
theorem oper_alike {o : Oper} {a b : Act} {w : World} {d : Nat} (hd : o.dst = some d) (hbd : d < b.tmps.size) (he : execOp a.eval o = execOp b.eval o) {G : Value -> World -> Prop}
 (h : Oper.wp P o b w (fun a' w' => ∃ v, a' = b.put o.dst v /\ G v w') NoWay) : Oper.wp P o a w (fun a' w' => ∃ v, a' = a.put o.dst v /\ G v w') Q := by
 have inj : ∀ u v, b.put o.dst u = b.put o.dst v -> u = v := by
  intro u v huv;rw [hd] at huv;have h1 := congrArg (fun x => x.tmps[d]?) huv;simp [Act.put, hbd] at h1;exact h1
 unfold Oper.wp at *
 rw [he];generalize (execOp b.eval o).run P w = r at *
 cases r with
 | ok n w' =>
  cases n <;> simp only [Oper.upon] at h ⊢
  case value u =>
   obtain ⟨v, h1, h2⟩ := h;obtain rfl := inj _ _ h1;exact ⟨u, rfl, h2⟩
  case skip =>
   obtain ⟨v, h1, h2⟩ := h;obtain rfl := inj _ _ h1;exact ⟨undef, rfl, h2⟩
  case defer x =>
   obtain ⟨v, h1, h2⟩ := h;rw [hd] at h1;have := congrArg (fun x => x.defers.length) h1;simp [Act.put] at this
  case enter f args =>
   refine Calls.mono h fun e w'' he => ?_
   cases e with
   | returned u =>
    obtain ⟨v, h1, h2⟩ := he;obtain rfl := inj _ _ h1;exact ⟨u, rfl, h2⟩
   | panicked c => exact he.elim
   | outgrown => obtain ⟨_, _, hx⟩ := he; exact hx.elim
  case row row args => exact Rows.mono h fun u w'' ⟨v, h1, h2⟩ => ⟨u, rfl, by obtain rfl := inj _ _ h1; exact h2⟩
 | halt x w' =>
  cases x <;> simp only [Oper.upon] at h ⊢
  case panic u => exact h.elim
theorem countP_lt {p q : Nat -> Bool} : ∀ (l : List Nat) (i : Nat), i ∈ l -> q i = true -> p i = false -> (∀ j, j ∈ l -> p j = true -> q j = true) -> l.countP p < l.countP q
 | [], _, h, _, _, _ => absurd h (by simp)
 | x :: r, i, hi, hq, hp, h => by
  rw [List.countP_cons, List.countP_cons];rcases List.mem_cons.1 hi with rfl | hi
  ·have := List.countP_mono_left (l := r) (p := p) (q := q) (fun y hy => h y (List.mem_cons_of_mem _ hy));simp [hq, hp]; omega
  ·have := countP_lt r i hi hq hp (fun j hj => h j (List.mem_cons_of_mem _ hj));by_cases hx : p x = true
   ·simp [hx, h x (by simp) hx]; omega
   ·simp [hx]; split <;> omega
theorem any_own {n : Nat} (S : Shape md ops owns eats n) (hK : ∀ i, i < ops.size -> Keeps1 base (owns.getD i false) (rel Rs i)) {a0 : Act} (hn : a0.tmps.size = n)
 (hW : Walk P ops Q md Rs owns eats base w0 ops.toList 0 a0 []) : ∀ (fuel : Nat) (listed : Array Bool) (a : Act) (w : World), listed.size = ops.size -> (List.range ops.size).countP (fun i => !listed.getD i false) <= fuel -> base <= w.heap.size ->
 Inv P ops md Rs owns eats base w0 a0 (fun i => listed.getD i false) a w -> wpAny P md ops Q fuel listed a w := by
 have hWv : ∀ vs : Nat -> Value, (∀ j o, ops[j]? = some o -> Duty P ops md Rs owns eats base w0 j o (acts ops a0 vs j) (vals vs j)) /\ Walk P ops Q md Rs owns eats base w0 [] ops.size (acts ops a0 vs ops.size) (vals vs ops.size) := by
  intro vs;obtain ⟨h1, h2⟩ := walk_acts a0 vs ops.toList 0 (by simp) hW;exact ⟨fun j o ho => h1 j o (Nat.zero_le _) ho, h2 (Nat.zero_le _)⟩
 have fin : ∀ (listed : Array Bool) (a : Act) (w : World), listed.size = ops.size -> Inv P ops md Rs owns eats base w0 a0 (fun i => listed.getD i false) a w -> Region.ready md ops listed = [] -> Q .normal a w := by
  intro listed a w hls I hr;have all : ∀ i, i < ops.size -> listed.getD i false = true := by
   intro i
   induction i using Nat.strongRecOn with
   | _ i ih =>
    intro hi;cases hli : listed.getD i false with
    | true => rfl
    | false =>
     have : i ∈ Region.ready md ops listed := by
      rw [mem_ready];refine ⟨by rw [<- hli]; simp [Array.getD, hls, hi], ops[i], by simp [hi], fun e he hb => ?_⟩;have hbf := S.deps i ops[i] (by simp [hi]) e he hb;exact ih _ (S.back _ _ hbf) (by have := S.back _ _ hbf; omega)
     rw [hr] at this; cases this
  obtain ⟨_, h2⟩ := hWv (valAt ops a);have hact : acts ops a0 (valAt ops a) ops.size = a := by
   obtain ⟨s1, s2⟩ := acts_size (ops := ops) a0 (valAt ops a) ops.size;have ht : (acts ops a0 (valAt ops a) ops.size).tmps = a.tmps := by
    apply Array.ext_getElem?;intro d;obtain ⟨k1, k2⟩ := acts_at S a0 hn (valAt ops a) d ops.size (Nat.le_refl _);by_cases hj : ∃ j, j < ops.size /\ dstAt ops j = some d
    ·obtain ⟨j, hj, hjd⟩ := hj;rw [k1 j hj hjd];obtain ⟨e, he, hen⟩ := S.dst j hj;obtain rfl : e = d := by rw [hjd] at he; exact (Option.some.inj he).symm
     unfold valAt;rw [hjd];have : e < a.tmps.size := by rw [I.size, hn]; exact hen
     simp [Array.getD, this]
    ·rw [k2 (fun k hk hkd => hj ⟨k, hk, hkd⟩)];exact (I.rest d (fun k hk hkd => absurd ⟨k, hk, hkd⟩ hj)).symm
   have hdf := s2.trans I.defers.symm;generalize acts ops a0 (valAt ops a) ops.size = b at *
   obtain ⟨bt, bd⟩ := b;obtain ⟨at', ad⟩ := a;simp at ht hdf;rw [ht, hdf]
  have := h2 w I.below;rw [hact] at this;refine this (fun j hj he => by
   rw [vals_at _ hj];exact I.fact j hj (all j hj) (fun k hk => by rw [eatsAt_eaten.2 ⟨k, hk⟩] at he; cases he))
 intro fuel
 induction fuel with
 | zero =>
  intro listed a w hls hc hb I;have hr : Region.ready md ops listed = [] := by
   cases h : Region.ready md ops listed with
   | nil => rfl
   | cons i r =>
    exfalso;have hi : i ∈ Region.ready md ops listed := by rw [h]; simp
    obtain ⟨h0, o, ho, _⟩ := mem_ready.1 hi;have his := (Array.getElem?_eq_some_iff.1 ho).1;have : 0 < (List.range ops.size).countP (fun i => !listed.getD i false) := List.countP_pos_iff.2 ⟨i, List.mem_range.2 his, by
     rw [show listed.getD i false = listed.getD i true by simp [Array.getD, hls, his], h0]; rfl⟩
    omega
  exact ⟨hr, fin listed a w hls I hr⟩
 | succ fuel ih =>
  intro listed a w hls hc hb I;refine ⟨fin listed a w hls I, fun i hi => ?_⟩;obtain ⟨h0, o, ho, hall⟩ := mem_ready.1 hi;have his := (Array.getElem?_eq_some_iff.1 ho).1;have hL : listed.getD i false = false := by rw [show listed.getD i false = listed.getD i true by simp [Array.getD, hls, his], h0]
  have hdep : ∀ j, beforeB md ops j i = true -> listed.getD j false = true := by
   intro j hj;obtain ⟨o', ho', e, he, hbd, rfl⟩ := before_iff.1 hj;obtain rfl : o = o' := by rw [ho] at ho'; exact Option.some.inj ho'
   exact hall e he hbd
  have hds : o.dst = dstAt ops i := by simp [dstAt, ho]
  obtain ⟨d, hd, hdn⟩ := S.dst i his;have hag := I.agrees S hn his hL hdep;obtain ⟨hex, hwt⟩ := run_alike (ops := ops) (o := o) (S.sel i o · · ho) (a := a) (b := acts ops a0 (valAt ops a) i) (fun d hd => hag d (by unfold looksB; rw [ho]; simpa using hd));have hval : ∀ j, beforeB md ops j i = true -> (vals (valAt ops a) i).getD j undef = valAt ops a j := fun j hj => vals_at _ (S.back _ _ hj)
  have hrow : rowV eats (vals (valAt ops a) i) i = rowOf ops eats a i := by
   unfold rowV rowOf;cases hk : eatsAt eats i with
   | none => rfl
   | some k =>
    show ((vals (valAt ops a) i).getD k undef).ownBlock = (valAt ops a k).ownBlock;rw [hval k (S.eat i k hk).2.2.1]
  have hnext : ∀ v w', Good Rs owns base (rowV eats (vals (valAt ops a) i) i) i w v w' -> wpAny P md ops Q fuel (listed.setIfInBounds i true) (a.put o.dst v) w' := by
   intro v w' G';rw [hrow] at G';obtain ⟨I', hb'⟩ := I.step S hK hn hb his hL hdep G';rw [hds];refine ih _ _ _ (by simp [hls]) ?_ hb' ?_
   ·have : (List.range ops.size).countP (fun j => !(listed.setIfInBounds i true).getD j false) < (List.range ops.size).countP (fun j => !listed.getD j false) := by
     refine countP_lt _ i (List.mem_range.2 his) (by simp [hL]) (by simp [Array.getD, hls, his]) (fun j hj h => ?_);by_cases hji : i = j
     ·subst hji; simp [Array.getD, hls, his] at h
     ·simpa [Array.getD_eq_getD_getElem?, Array.getElem?_setIfInBounds_ne hji] using h
    omega
   ·have hfun : (fun j => (listed.setIfInBounds i true).getD j false) = fun j => if j = i then true else listed.getD j false := by
     funext j
     by_cases hji : j = i
     ·subst hji; simp [Array.getD, hls, his]
     ·simp [Array.getD_eq_getD_getElem?, Array.getElem?_setIfInBounds_ne (Ne.symm hji), hji]
    rw [hfun];exact I'
  have hduty := (hWv (valAt ops a)).1 i o ho w I.below
   (fun j hj => by
    obtain ⟨hj, hjl⟩ := dep_of hj;rw [hval j hj];have hji := S.back _ _ hj;refine I.fact j (by omega) (hdep j hj) (fun k hk => ?_);cases hLk : listed.getD k false with
    | false => rfl
    | true =>
     exfalso;have hLk : listed.getD k false = true := hLk;have hks := (S.eat k j hk).1;by_cases hki : k = i
     ·subst hki; rw [hL] at hLk; cases hLk
     ·obtain ⟨e, he, _⟩ := S.dst j (by omega);have := (S.eat k j hk).2.2.2 i e his (Ne.symm hki) he (hjl e he);have h1 := I.closed k i hks hLk this;have h1 : listed.getD i false = true := h1;rw [hL] at h1; cases h1)
   (fun j hj hoj g hg => by
    obtain ⟨hj, hjl⟩ := dep_of hj;rw [hval j hj] at hg;have hji := S.back _ _ hj;exact (I.ob j (by omega) (hdep j hj) hoj g hg).1)
   (fun a' w' => ∃ v, a' = (acts ops a0 (valAt ops a) i).put o.dst v /\ Good Rs owns base (rowV eats (vals (valAt ops a) i) i) i w v w') (fun v w' G => ⟨v, rfl, G⟩)
  have hinj : ∀ u v, (acts ops a0 (valAt ops a) i).put o.dst u = (acts ops a0 (valAt ops a) i).put o.dst v -> u = v := by
   intro u v huv;rw [hds, hd] at huv;have h1 := congrArg (fun x => x.tmps[d]?) huv;have hsz := (acts_size (ops := ops) a0 (valAt ops a) i).1;have hlt : d < (acts ops a0 (valAt ops a) i).tmps.size := by rw [hsz, hn]; exact hdn
   simp [Act.put, hlt] at h1;exact h1
  unfold wpOp;simp only [ho];rw [hwt];split
  ·rename_i hw
   rw [if_pos hw] at hduty;refine Or.inl (Oper.wp_mono (fun a' w' h => ?_) (oper_alike (d := d) (by rw [hds, hd]) (by rw [(acts_size (ops := ops) a0 (valAt ops a) i).1, hn]; exact hdn) hex hduty));obtain ⟨v, rfl, G⟩ := h;exact hnext v w' G
  ·rename_i hw
   rw [if_neg hw] at hduty;obtain ⟨v, h1, G⟩ := hduty;obtain rfl := hinj _ _ h1;exact hnext undef w G
theorem region_own {id : Nat} {n : Nat} {a0 : Act} {w : World} (Rs : List Rel) (owns : List Bool) (eats : List (Option Nat)) (hm : P.follows .mixedOrders = true) (hn : a0.tmps.size = n) (hs : shapeB .any ops owns eats n = true)
 (hK : ∀ i, i < ops.size -> Keeps1 w.heap.size (owns.getD i false) (rel Rs i)) (hW : Walk P ops Q .any Rs owns eats w.heap.size w.drew ops.toList 0 a0 []) : (Code.region id ops true).wp P Q a0 w := by
 refine wp_region_any hm (any_own (w0 := w.drew) (base := w.heap.size) (shape_of hs) hK hn hW ops.size _ a0 w.drew (by simp) ?_ (Nat.le_refl _) ?_)
 ·exact Nat.le_trans List.countP_le_length (by simp)
 ·refine ⟨Below.refl _ _, rfl, rfl, fun _ _ => rfl, ?_, ?_, ?_, ?_⟩
  all_goals
   intros
   rename_i h _
   simp [Array.getD] at *
end
end Ow
end Go.Proofs.YtcnfcililiehlaaGreatDoor
namespace Go.Proofs.YtcnfcililiehlaaGreatDoor
open Go.Lib
def isD (c : UInt8) : Bool := decide (48 <= c.toNat /\ c.toNat <= 57)
def digv (c : UInt8) : Nat := c.toNat - 48
theorem isD_iff {c : UInt8} : isD c = true ↔ 48 <= c.toNat /\ c.toNat <= 57 := decide_eq_true_iff
def valD (acc : Nat) (l : List UInt8) : Nat := l.foldl (fun a c => 10 * a + digv c) acc
end Go.Proofs.YtcnfcililiehlaaGreatDoor
namespace Go.Proofs.YtcnfcililiehlaaGreatDoor
open Go.Lib
def isSB (c : UInt8) : Bool := decide (33 <= c.toNat /\ c.toNat <= 126)
theorem isSB_blank : isSB 32 = false := by decide
def glue (p : List UInt8) : List (List UInt8) -> List (List UInt8)
 | [] => [p]
 | q :: r => (p ++ q) :: r
def pieces : List UInt8 -> List (List UInt8)
 | [] => [[]]
 | c :: r => if c = 32 then [] :: pieces r else glue [c] (pieces r)
theorem pieces_nil : pieces [] = [[]] := rfl
theorem pieces_blank (r : List UInt8) : pieces (32 :: r) = [] :: pieces r := by simp [pieces]
theorem pieces_cons {c : UInt8} (h : c ≠ 32) (r : List UInt8) : pieces (c :: r) = glue [c] (pieces r) := by simp [pieces, h]
theorem pieces_ne (l : List UInt8) : pieces l ≠ [] := by
 cases l with
 | nil => simp [pieces]
 | cons c r =>
  unfold pieces; split
  ·simp
  ·unfold glue; split <;> simp
theorem glue_glue (p q : List UInt8) (X : List (List UInt8)) : glue p (glue q X) = glue (p ++ q) X := by
 cases X with
 | nil => rfl
 | cons a r => simp [glue]
theorem glue_blank (p : List UInt8) (X : List (List UInt8)) : glue p ([] :: X) = p :: X := by simp [glue]
def goodW (w : List UInt8) : Bool := !w.isEmpty && w.all isSB
def depthL : List UInt8 -> Nat
 | [] => 0
 | c :: r => if c = 32 then depthL r + 1 else 0
def lineW (l : List UInt8) : List (List UInt8) := pieces (l.drop (depthL l))
def lineB (l : List UInt8) : Bool := (lineW l).all goodW
def Blanks (l : List UInt8) (k : Nat) : Prop := k <= l.length /\ depthL l = k + depthL (l.drop k)
theorem Blanks.zero (l : List UInt8) : Blanks l 0 := ⟨Nat.zero_le _, by simp⟩
theorem Blanks.step {l : List UInt8} {k : Nat} (h : Blanks l k) (hk : k < l.length) (hc : l[k] = 32) : Blanks l (k + 1) := by
 refine ⟨hk, ?_⟩;rw [h.2, List.drop_eq_getElem_cons hk, hc];simp only [depthL, if_true]; omega
theorem Blanks.stop {l : List UInt8} {k : Nat} (h : Blanks l k) (hs : k = l.length \/ ∃ hk : k < l.length, l[k] ≠ 32) : depthL l = k := by
 rw [h.2];rcases hs with hs | ⟨hk, hc⟩
 ·rw [List.drop_of_length_le (by omega)]; rfl
 ·rw [List.drop_eq_getElem_cons hk]; simp only [depthL, if_neg hc]; rfl
structure First (l : List UInt8) (xs : List (List UInt8)) (k : Nat) : Prop where
 eq : lineW l = xs ++ pieces (l.drop k)
 good : xs.all goodW = true
 len : k <= l.length
 few : xs.length <= k
structure Word (l : List UInt8) (xs : List (List UInt8)) (b k : Nat) : Prop where
 eq : lineW l = xs ++ glue ((l.drop b).take (k + 1 - b)) (pieces (l.drop (k + 1)))
 good : xs.all goodW = true
 lt : k < l.length
 le : b <= k
 word : goodW ((l.drop b).take (k + 1 - b)) = true
 few : xs.length <= b
theorem First.start {l : List UInt8} {k : Nat} (h : depthL l = k) (hk : k <= l.length) : First l [] k := ⟨by unfold lineW; rw [h]; rfl, rfl, hk, Nat.zero_le _⟩
theorem all_append_bad {xs : List (List UInt8)} {q : List UInt8} {r : List (List UInt8)} (h : goodW q = false) : (xs ++ q :: r).all goodW = false := by
 rw [List.all_append, List.all_cons, h]; simp
theorem goodW_bad {p q : List UInt8} {c : UInt8} (h : isSB c = false) : goodW (p ++ c :: q) = false := by
 unfold goodW;rw [List.all_append, List.all_cons, h]; simp
theorem First.stop {l : List UInt8} {xs : List (List UInt8)} {k : Nat} (h : First l xs k) (hs : k = l.length \/ ∃ hk : k < l.length, isSB l[k] = false) : lineB l = false := by
 unfold lineB;rw [h.eq];rcases hs with hs | ⟨hk, hc⟩
 ·rw [List.drop_of_length_le (by omega), pieces_nil];exact all_append_bad rfl
 ·rw [List.drop_eq_getElem_cons hk];by_cases hb : l[k] = 32
  ·rw [hb, pieces_blank]; exact all_append_bad rfl
  ·rw [pieces_cons hb];cases hp : pieces (l.drop (k + 1)) with
   | nil => exact absurd hp (pieces_ne _)
   | cons q r => exact all_append_bad (goodW_bad (p := []) hc)
theorem not_blank {c : UInt8} (h : isSB c = true) : c ≠ 32 := by
 intro e; subst e; rw [isSB_blank] at h; cases h
theorem take_one (l : List UInt8) (k : Nat) (hk : k < l.length) : (l.drop k).take (k + 1 - k) = [l[k]] := by
 rw [show k + 1 - k = 1 by omega, List.drop_eq_getElem_cons hk]; rfl
theorem First.word {l : List UInt8} {xs : List (List UInt8)} {k : Nat} (h : First l xs k) (hk : k < l.length) (hc : isSB l[k] = true) : Word l xs k k := by
 refine ⟨?_, h.good, hk, Nat.le_refl _, ?_, h.few⟩
 ·rw [h.eq, take_one l k hk, List.drop_eq_getElem_cons hk, pieces_cons (not_blank hc)]
 ·rw [take_one l k hk]; simp [goodW, hc]
theorem take_more (l : List UInt8) (b k : Nat) (hb : b <= k) (hk : k + 1 < l.length) : (l.drop b).take (k + 1 + 1 - b) = (l.drop b).take (k + 1 - b) ++ [l[k + 1]] := by
 rw [show k + 1 + 1 - b = (k + 1 - b) + 1 by omega, List.take_succ_eq_append_getElem (by rw [List.length_drop]; omega)]
 congr 2
 rw [List.getElem_drop]
 congr 1; omega
theorem goodW_more {p : List UInt8} {c : UInt8} (h : goodW p = true) (hc : isSB c = true) : goodW (p ++ [c]) = true := by
 unfold goodW at *
 rw [Bool.and_eq_true] at h ⊢;refine ⟨by simp, ?_⟩;rw [List.all_append, h.2]; simp [hc]
theorem Word.step {l : List UInt8} {xs : List (List UInt8)} {b k : Nat} (h : Word l xs b k) (hk : k + 1 < l.length) (hc : isSB l[k + 1] = true) : Word l xs b (k + 1) := by
 refine ⟨?_, h.good, hk, by have := h.le; omega, ?_, h.few⟩
 ·rw [h.eq, take_more l b k h.le hk, List.drop_eq_getElem_cons hk, pieces_cons (not_blank hc), glue_glue]
 ·rw [take_more l b k h.le hk]; exact goodW_more h.word hc
def wordAt (l : List UInt8) (b k : Nat) : List UInt8 := (l.drop b).take (k + 1 - b)
theorem Word.end_ {l : List UInt8} {xs : List (List UInt8)} {b k : Nat} (h : Word l xs b k) (hk : k + 1 = l.length) : lineB l = true /\ lineW l = xs ++ [wordAt l b k] := by
 have e : lineW l = xs ++ [wordAt l b k] := by
  have e2 : l.drop (k + 1) = [] := List.drop_of_length_le (by omega);rw [h.eq, e2, pieces_nil, glue_blank]; rfl
 refine ⟨?_, e⟩;unfold lineB;rw [e, List.all_append, h.good];have := h.word;unfold wordAt;simp [this]
theorem Word.next {l : List UInt8} {xs : List (List UInt8)} {b k : Nat} (h : Word l xs b k) (hk : k + 1 < l.length) (hc : l[k + 1] = 32) : First l (xs ++ [wordAt l b k]) (k + 1 + 1) := by
 refine ⟨?_, ?_, hk, ?_⟩
 ·rw [h.eq, List.drop_eq_getElem_cons hk, hc, pieces_blank, glue_blank]; simp [wordAt]
 ·rw [List.all_append, h.good];have := h.word;unfold wordAt;simp [this]
 ·have := h.few; have := h.le; simp; omega
theorem Word.bad {l : List UInt8} {xs : List (List UInt8)} {b k : Nat} (h : Word l xs b k) (hk : k + 1 < l.length) (hc : l[k + 1] ≠ 32) (hs : isSB l[k + 1] = false) : lineB l = false := by
 unfold lineB;rw [h.eq, List.drop_eq_getElem_cons hk, pieces_cons hc, glue_glue];cases hp : pieces (l.drop (k + 1 + 1)) with
 | nil => exact absurd hp (pieces_ne _)
 | cons q r =>
  refine all_append_bad ?_;rw [List.append_assoc];exact goodW_bad hs
end Go.Proofs.YtcnfcililiehlaaGreatDoor
