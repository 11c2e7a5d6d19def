/- Own texts, joined: Ox, Ka, Kb, Ip, Va, FE, FI, Vb, Vp, Vg. -/
import Derived.Test.YtcnfcililiehlaaGreatDoorR1
import Derived.Test.YtcnfcililiehlaaGreatDoorR2
import Derived.Test.YtcnfcililiehlaaGreatDoorR3
import Derived.Laws.AppendOwnNone
namespace Go.Proofs.YtcnfcililiehlaaGreatDoor
open Go Go.RowKit
def Inn (w : World) (size : Nat) (v : Value) (n : Nat) (xs : List Value) : Prop :=
 (v = .slice none 0 0 /\ n = 0 /\ xs = []) \/ ∃ ad c, v = .slice (some ad) n c /\ xs.length = n * size /\ (0 < n -> ∃ b o, ad = ⟨b, o, none⟩ /\ b < w.heap.size /\ ∀ j u, xs[j]? = some u -> w.cell? ⟨b, o + j, none⟩ = some u)
theorem Inn.same {w w' : World} {size : Nat} {v : Value} {n : Nat} {xs : List Value} (h : Inn w size v n xs) (hs : w.heap.size <= w'.heap.size) (hb : ∀ k, k < w.heap.size -> w'.heap[k]? = w.heap[k]?) : Inn w' size v n xs := by
 rcases h with h | ⟨ad, c, e, hl, h⟩
 ·exact Or.inl h
 ·refine Or.inr ⟨ad, c, e, hl, fun hn => ?_⟩;obtain ⟨b, o, e, hlt, hc⟩ := h hn;refine ⟨b, o, e, by omega, fun j u hu => ?_⟩;rw [World.cell?_of_block (w := w) (hb _ hlt)];exact hc j u hu
theorem Inn.below {w w' : World} {size : Nat} {v : Value} {n : Nat} {xs : List Value} (h : Inn w size v n xs) (hb : Below w.heap.size w w') : Inn w' size v n xs := h.same hb.size hb.block
theorem Inn.form {w : World} {size : Nat} {v : Value} {n : Nat} {xs : List Value} (h : Inn w size v n xs) : ∃ A c, v = .slice A n c := by
 rcases h with ⟨rfl, rfl, _⟩ | ⟨ad, c, rfl, _⟩
 ·exact ⟨_, _, rfl⟩
 ·exact ⟨_, _, rfl⟩
theorem Inn.at_ {w : World} {size : Nat} {A : Option Addr} {m c : Nat} {n : Nat} {xs : List Value} (h : Inn w size (.slice A m c) n xs) {k : Nat} (hk : k < n) :
 ∃ b o, A = some ⟨b, o, none⟩ /\ b < w.heap.size /\ ∀ j u, xs[k * size + j]? = some u -> w.cell? ⟨b, o + k * size + j, none⟩ = some u := by
 rcases h with ⟨_, rfl, _⟩ | ⟨ad, c', e, _, h⟩
 ·omega
 ·simp only [Value.slice.injEq] at e;obtain ⟨b, o, rfl, hlt, hc⟩ := h (by omega);exact ⟨b, o, e.1, hlt, fun j u hu => by rw [Nat.add_assoc]; exact hc _ u hu⟩
theorem Inn.of_own {w : World} {B : Nat} {e : TypeId} {size n : Nat} {v : Value} {xs : List Value} (h : w.ownsRow B e size v n xs) : Inn w size v n xs := by
 rcases h.2 with ⟨rfl, rfl⟩ | ⟨g, cap, cur, rfl, _⟩
 ·exact Or.inl ⟨rfl, rfl, by have := h.1; simp at this; exact this⟩
 ·have hlt := (h.lt g rfl).2;exact Or.inr ⟨⟨g, 0, none⟩, cap, rfl, h.1, fun _ => ⟨g, 0, rfl, hlt, fun j u hu => by
   have := h.cells (g := g) rfl j u hu;rw [add_lit'] at this; exact this⟩⟩
theorem Inn.nil (w : World) (size : Nat) : Inn w size (.slice none 0 0) 0 [] := Or.inl ⟨rfl, rfl, rfl⟩
namespace Ow
theorem walk_cons {P : Program} {ops : Array Oper} {Q : Exit -> Act -> World -> Prop} {md : Region.Mode} {Rs : List Rel} {owns : List Bool} {eats : List (Option Nat)} {base : Nat} {w0 : World} {l r : List Oper} {o : Oper} {i : Nat} {a : Act} {vs : List Value} {f : Value -> Act} {us : Value -> List Value}
 (hl : l = o :: r) (h : Duty P ops md Rs owns eats base w0 i o a vs) (hf : ∀ v, a.put o.dst v = f v) (hu : ∀ v, vs ++ [v] = us v) (hr : ∀ v, Walk P ops Q md Rs owns eats base w0 r (i + 1) (f v) (us v)) : Walk P ops Q md Rs owns eats base w0 l i a vs := by
 subst hl; exact ⟨h, fun v => by rw [hf, hu]; exact hr v⟩
theorem walk_q {P : Program} {ops : Array Oper} {Q : Exit -> Act -> World -> Prop} {md : Region.Mode} {Rs : List Rel} {owns : List Bool} {eats : List (Option Nat)} {base : Nat} {w0 : World} {l r : List Oper} {o : Oper} {i : Nat} {a : Act} {vs : List Value} {f : Value -> Act} {us : Value -> List Value}
 (h : Duty P ops md Rs owns eats base w0 i o a vs) (hr : ∀ v, Walk P ops Q md Rs owns eats base w0 r (i + 1) (f v) (us v))
 (hl : l = o :: r := by exact rfl) (hf : ∀ v, a.put o.dst v = f v := by intro v; simp only [Act.put, List.setIfInBounds_toArray, List.set_cons_succ, List.set_cons_zero]; exact rfl) (hu : ∀ v, vs ++ [v] = us v := by intro v; simp only [List.cons_append, List.nil_append]; exact rfl) : Walk P ops Q md Rs owns eats base w0 l i a vs :=
 walk_cons hl h hf hu hr
theorem walk_nil {P : Program} {ops : Array Oper} {Q : Exit -> Act -> World -> Prop} {md : Region.Mode} {Rs : List Rel} {owns : List Bool} {eats : List (Option Nat)} {base : Nat} {w0 : World} {l : List Oper} {i : Nat} {a : Act} {vs : List Value}
 (hl : l = []) (h : ∀ w, Below base w0 w -> (∀ j, (Nat.blt j ops.size && !eatenB eats j) = true -> rel Rs j (vs.getD j undef) w) -> Q .normal a w) : Walk P ops Q md Rs owns eats base w0 l i a vs := by
 subst hl;refine fun w hb hd => h w hb fun j hj => ?_
 rw [Bool.and_eq_true] at hj;exact hd j (by simpa using hj.1) (by simpa using hj.2)
section
variable {Rs : List Rel} {owns : List Bool} {eats : List (Option Nat)} {base : Nat} {w w' : World} {vs : List Value} {i : Nat} {v : Value}
def KeepsL (base : Nat) : List Bool -> List Rel -> Prop
 | o :: os, R :: rs => Keeps1 base o R /\ KeepsL base os rs
 | [], R :: rs => Keeps1 base false R /\ KeepsL base [] rs
 | _, [] => True
theorem KeepsL.all : ∀ (os : List Bool) (rs : List Rel), KeepsL base os rs -> ∀ i, Keeps1 base (os.getD i false) (rel rs i)
 | o :: os, R :: rs, h, 0 => h.1
 | o :: os, R :: rs, h, i + 1 => KeepsL.all os rs h.2 i
 | [], R :: rs, h, 0 => h.1
 | [], R :: rs, h, i + 1 => KeepsL.all [] rs h.2 i
 | [], [], _, i => fun _ _ _ _ h _ _ _ => by cases i <;> exact h
 | _ :: _, [], _, i => fun _ _ _ _ _ _ _ _ => by simp [rel]
theorem keeps_eq (x : Value) (o : Bool) : Keeps1 base o (eqR x) := fun _ _ _ _ h _ _ _ => h
theorem good_same (_h1 : eatsAt eats i = none) (h2 : owns.getD i false = false) (h3 : rel Rs i v w) : Good Rs owns base (rowV eats vs i) i w v w :=
 ⟨h3, ⟨rfl, rfl, rfl, Nat.le_refl _, fun _ _ _ => rfl⟩, fun h => by rw [h2] at h; cases h⟩
theorem good_below (_h1 : eatsAt eats i = none) (h2 : owns.getD i false = false) (hb : Below w.heap.size w w') (h3 : rel Rs i v w') : Good Rs owns base (rowV eats vs i) i w v w' :=
 ⟨h3, grown_of_below hb _, fun h => by rw [h2] at h; cases h⟩
end
theorem region_own' {P : Program} {ops : Array Oper} {Q : Exit -> Act -> World -> Prop} {id : Nat} {a0 : Act} {w : World} (n : Nat) (Rs : List Rel) (owns : List Bool) (eats : List (Option Nat)) (hm : P.follows .mixedOrders = true) (hn : a0.tmps.size = n) (hs : shapeB .any ops owns eats n = true)
 (hK : KeepsL w.heap.size owns Rs) (hW : Walk P ops Q .any Rs owns eats w.heap.size w.drew ops.toList 0 a0 []) : (Code.region id ops true).wp P Q a0 w :=
 region_own Rs owns eats hm hn hs (fun i _ => KeepsL.all _ _ hK i) hW
theorem oper_append {P : Program} {o : Oper} {a : Act} {w : World} {K : Act -> World -> Prop} {Q : Exit -> Act -> World -> Prop} (s x : Operand) (t : TypeId)
 (ho : o.op = .call { callee := .builtin .append, args := #[s, x], argTypes := #[t, t] })
 (base : Nat) (e : TypeId) (i : TypeInfo) (z : Value) (size bytes : Nat) (ht : P.underlying t = some (.slice e)) (hi : P.info? e = some i) (hz : i.zero = some z)
 (hsize : i.size = size) (hby : i.bytes = bytes) (hzs : z.cells.size = size) (hsz : 0 < size)
 (v : Value) (n : Nat) (xs : List Value) (hs : a.eval s = v) (hown : w.ownsRow base e size v n xs)
 (u : Value) (m : Nat) (news : List Value) (hx : a.eval x = u) (hin : Inn w size u m news) (h1 : ∀ u ∈ news, u.oneCell' = true)
 (h63 : n + m <= maxLen) (hbytes : (n + m) * bytes <= 140737488355328) (hbase : base <= w.heap.size)
 (h : ∀ v' w', w'.ownsRow base e size v' (n + m) (xs ++ news) -> w.grownBy w' v.ownBlock -> ((v'.ownBlock = v.ownBlock /\ ∀ g, v'.ownBlock = some g -> g < w'.heap.size) \/ ∀ g, v'.ownBlock = some g -> w.heap.size <= g /\ g < w'.heap.size) -> K (a.put o.dst v') w') :
 Oper.wp P o a w K Q := by
 rcases hin with ⟨rfl, rfl, rfl⟩ | ⟨ad, c, rfl, hl, hc⟩
 ·have hrun := run_append_owned_none (P := P) (w := w) base t o.type e i size ht hi v n xs hown;unfold Oper.wp execOp;simp only [ho, resolve, invoke, builtin, Sem.run_bind, Sem.run_pure, Result.andThen_ok, List.map_toArray, List.map_cons, List.map_nil, hs, hx, hrun];exact h v w (by simpa using hown) ⟨rfl, rfl, rfl, Nat.le_refl _, fun _ _ _ => rfl⟩ (Or.inl ⟨rfl, fun g hg => (hown.lt g hg).2⟩)
 ·obtain ⟨v', w', hrun, h2, h3, _, h5⟩ := run_append_own_at (P := P) w base t o.type e i z size bytes ht hi hz hsize hby hzs hsz v n xs hown ad m c news hl (fun j u hu => by
   have hm : 0 < m := by
    rcases Nat.eq_zero_or_pos m with h0 | h0
    ·subst h0;have : news = [] := List.eq_nil_of_length_eq_zero (by omega);subst this; simp at hu
    ·exact h0
   obtain ⟨b, k, rfl, _, hc⟩ := hc hm;rw [add_lit']; exact hc j u hu) h1 h63 hbytes hbase
  unfold Oper.wp execOp;simp only [ho, resolve, invoke, builtin, Sem.run_bind, Sem.run_pure, Result.andThen_ok, List.map_toArray, List.map_cons, List.map_nil, hs, hx, hrun];refine h v' w' h2 h3 ?_;rcases h5 with h5 | h5
  ·exact Or.inl ⟨h5, fun g hg => (h2.lt g hg).2⟩
  ·refine Or.inr fun g hg => ⟨?_, (h2.lt g hg).2⟩
   rw [h5] at hg;exact Nat.le_of_eq (Option.some.inj hg)
theorem step_append {P : Program} {ops : Array Oper} {o : Oper} {a : Act} {w : World} {K : Act -> World -> Prop} {Q : Exit -> Act -> World -> Prop} {E : Prop} (hgd : o.guard = none) (s x : Operand) (t : TypeId)
 (ho : o.op = .call { callee := .builtin .append, args := #[s, x], argTypes := #[t, t] })
 (base : Nat) (e : TypeId) (i : TypeInfo) (z : Value) (size bytes : Nat) (ht : P.underlying t = some (.slice e)) (hi : P.info? e = some i) (hz : i.zero = some z)
 (hsize : i.size = size) (hby : i.bytes = bytes) (hzs : z.cells.size = size) (hsz : 0 < size)
 (v : Value) (n : Nat) (xs : List Value) (hs : a.eval s = v) (hown : w.ownsRow base e size v n xs)
 (u : Value) (m : Nat) (news : List Value) (hx : a.eval x = u) (hin : Inn w size u m news) (h1 : ∀ u ∈ news, u.oneCell' = true)
 (h63 : n + m <= maxLen) (hbytes : (n + m) * bytes <= 140737488355328) (hbase : base <= w.heap.size)
 (h : ∀ v' w', w'.ownsRow base e size v' (n + m) (xs ++ news) -> w.grownBy w' v.ownBlock -> ((v'.ownBlock = v.ownBlock /\ ∀ g, v'.ownBlock = some g -> g < w'.heap.size) \/ ∀ g, v'.ownBlock = some g -> w.heap.size <= g /\ g < w'.heap.size) -> K (a.put o.dst v') w') :
 if Region.wanted o (yielded ops a.tmps) = true then Oper.wp P o a w K Q else E := by
 have hw : Region.wanted o (yielded ops a.tmps) = true := by simp [Region.wanted, hgd]
 rw [if_pos hw];exact oper_append s x t ho base e i z size bytes ht hi hz hsize hby hzs hsz v n xs hs hown u m news hx hin h1 h63 hbytes hbase h
theorem wpList_append {P : Program} {ops : Array Oper} {rest : List Oper} {o : Oper} {a : Act} {w : World} {Q : Exit -> Act -> World -> Prop} (hgd : o.guard = none) (s x : Operand) (t : TypeId)
 (ho : o.op = .call { callee := .builtin .append, args := #[s, x], argTypes := #[t, t] })
 (base : Nat) (e : TypeId) (i : TypeInfo) (z : Value) (size bytes : Nat) (ht : P.underlying t = some (.slice e)) (hi : P.info? e = some i) (hz : i.zero = some z)
 (hsize : i.size = size) (hby : i.bytes = bytes) (hzs : z.cells.size = size) (hsz : 0 < size)
 (v : Value) (n : Nat) (xs : List Value) (hs : a.eval s = v) (hown : w.ownsRow base e size v n xs)
 (u : Value) (m : Nat) (news : List Value) (hx : a.eval x = u) (hin : Inn w size u m news) (h1 : ∀ u ∈ news, u.oneCell' = true)
 (h63 : n + m <= maxLen) (hbytes : (n + m) * bytes <= 140737488355328) (hbase : base <= w.heap.size)
 (h : ∀ v' w', w'.ownsRow base e size v' (n + m) (xs ++ news) -> w.grownBy w' v.ownBlock -> ((v'.ownBlock = v.ownBlock /\ ∀ g, v'.ownBlock = some g -> g < w'.heap.size) \/ ∀ g, v'.ownBlock = some g -> w.heap.size <= g /\ g < w'.heap.size) -> wpList P ops Q rest (a.put o.dst v') w') :
 wpList P ops Q (o :: rest) a w :=
 wpList_plain hgd fun _ hK => oper_append s x t ho base e i z size bytes ht hi hz hsize hby hzs hsz v n xs hs hown u m news hx hin h1 h63 hbytes hbase fun v' w' h2 h3 h4 => hK _ _ (h v' w' h2 h3 h4)
end Ow
end Go.Proofs.YtcnfcililiehlaaGreatDoor
namespace Go.Proofs.YtcnfcililiehlaaGreatDoor
structure VM where
 nm : List UInt8
 kd : Int
 lo : Int
 hi : Int
 ik : Int
 ia : Int
 ib : Int
def varK (vs : List VM) (n : List UInt8) : Int × Int :=
 match vs.find? (fun v => decide (v.nm = n)) with
 | none => (0, 2)
 | some v => if 1 <= v.kd /\ v.kd <= 3 then (v.kd, 0) else (0, 8)
def leafK (vs : List VM) (ss : List (List UInt8)) (c : CM) : Int × Int :=
 if c.op = 1 then (1, 0) else if c.op = 2 then (3, 0) else if c.op = 5 then varK vs c.nm else if c.op = 6 /\ c.nm ∉ ss then (0, 2) else (2, 0)
def unK (o k : Int) : Int := if o = 7 then (if k = 2 then 0 else k) else if o = 8 then (if k = 2 then 2 else 0) else if k = 3 then 1 else 0
def binK (o k : Int) : Int :=
 if o = 16 \/ o = 17 then 2 else if o = 22 \/ o = 23 then (if k = 2 then 2 else 0) else if 18 <= o then (if k = 1 then 2 else 0) else if 14 <= o then (if k = 1 then 1 else 0) else if k = 2 then 0 else k
def errK (k : Int) : Int × Int := if k = 0 then (0, 8) else (k, 0)
def joinK (o a b : Int) : Int × Int := if a ≠ b then (0, 8) else errK (binK o a)
section
variable (vs : List VM) (ss : List (List UInt8))
def kT : T -> Int × Int
 | .leaf c => leafK vs ss c
 | .un o t => if (kT t).2 ≠ 0 then (0, (kT t).2) else errK (unK o (kT t).1)
 | .bin o l r => if (kT l).2 ≠ 0 then (0, (kT l).2) else if (kT r).2 ≠ 0 then (0, (kT r).2) else joinK o (kT l).1 (kT r).1
def madeK (c : CM) (st : List Int) : Int × Int :=
 match operN c.op with
 | 0 => leafK vs ss c
 | 1 => errK (unK c.op (st.headD 0))
 | _ => joinK c.op (st.headD 0) ((st.drop 1).headD 0)
def kRun : List CM -> List Int -> Int × Int
 | [], st => (st.headD 0, 0)
 | c :: r, st => if (madeK vs ss c (st.drop (st.length - operN c.op))).2 ≠ 0 then (0, (madeK vs ss c (st.drop (st.length - operN c.op))).2)
  else kRun r (st.take (st.length - operN c.op) ++ [(madeK vs ss c (st.drop (st.length - operN c.op))).1])
def kindP (cs : List CM) : Int × Int := if rightB cs = true then kRun vs ss cs [] else (0, 1)
end
section
variable {vs : List VM} {ss : List (List UInt8)}
theorem varK_range (n : List UInt8) : ((varK vs n).2 = 0 /\ 1 <= (varK vs n).1 /\ (varK vs n).1 <= 3) \/ ((varK vs n).2 ≠ 0 /\ (varK vs n).1 = 0) := by
 unfold varK;split
 ·exact Or.inr ⟨by decide, rfl⟩
 ·split
  ·rename_i h; exact Or.inl ⟨rfl, h.1, h.2⟩
  ·exact Or.inr ⟨by decide, rfl⟩
theorem leafK_range (c : CM) : ((leafK vs ss c).2 = 0 /\ 1 <= (leafK vs ss c).1 /\ (leafK vs ss c).1 <= 3) \/ ((leafK vs ss c).2 ≠ 0 /\ (leafK vs ss c).1 = 0) := by
 unfold leafK;split
 ·exact Or.inl ⟨rfl, by decide, by decide⟩
 ·split
  ·exact Or.inl ⟨rfl, by decide, by decide⟩
  ·split
   ·exact varK_range _
   ·split
    ·exact Or.inr ⟨by decide, rfl⟩
    ·exact Or.inl ⟨rfl, by decide, by decide⟩
theorem errK_range {k : Int} (h : 0 <= k /\ k <= 3) : ((errK k).2 = 0 /\ 1 <= (errK k).1 /\ (errK k).1 <= 3) \/ ((errK k).2 ≠ 0 /\ (errK k).1 = 0) := by
 unfold errK;split
 ·exact Or.inr ⟨by decide, rfl⟩
 ·exact Or.inl ⟨rfl, by show 1 <= k; omega, h.2⟩
theorem unK_range {o k : Int} (h : 1 <= k /\ k <= 3) : 0 <= unK o k /\ unK o k <= 3 := by
 unfold unK
 repeat' split
 all_goals omega
theorem binK_range {o k : Int} (h : 1 <= k /\ k <= 3) : 0 <= binK o k /\ binK o k <= 3 := by
 unfold binK
 repeat' split
 all_goals omega
theorem joinK_range {o a b : Int} (h : 1 <= a /\ a <= 3) : ((joinK o a b).2 = 0 /\ 1 <= (joinK o a b).1 /\ (joinK o a b).1 <= 3) \/ ((joinK o a b).2 ≠ 0 /\ (joinK o a b).1 = 0) := by
 unfold joinK;split
 ·exact Or.inr ⟨by decide, rfl⟩
 ·exact errK_range (binK_range h)
theorem kT_range (t : T) : ((kT vs ss t).2 = 0 /\ 1 <= (kT vs ss t).1 /\ (kT vs ss t).1 <= 3) \/ ((kT vs ss t).2 ≠ 0 /\ (kT vs ss t).1 = 0) := by
 induction t with
 | leaf c => exact leafK_range c
 | un o t ih =>
  unfold kT;rcases ih with ⟨h1, h2⟩ | ⟨h1, h2⟩
  ·rw [if_neg (by simp [h1])]; exact errK_range (unK_range h2)
  ·rw [if_pos h1]; exact Or.inr ⟨h1, rfl⟩
 | bin o l r ihl ihr =>
  unfold kT;rcases ihl with ⟨h1, h2⟩ | ⟨h1, h2⟩
  ·rw [if_neg (by simp [h1])];rcases ihr with ⟨h3, h4⟩ | ⟨h3, h4⟩
   ·rw [if_neg (by simp [h3])]; exact joinK_range h2
   ·rw [if_pos h3]; exact Or.inr ⟨h3, rfl⟩
  ·rw [if_pos h1]; exact Or.inr ⟨h1, rfl⟩
theorem run_kT {t : T} (h : OkT t) : ∀ (r : List CM) (st : List Int), kRun vs ss (post t ++ r) st = if (kT vs ss t).2 ≠ 0 then (0, (kT vs ss t).2) else kRun vs ss r (st ++ [(kT vs ss t).1]) := by
 induction t with
 | leaf c =>
  intro r st;show kRun vs ss (c :: r) st = _;have h0 : operN c.op = 0 := h.2;have hm : madeK vs ss c (st.drop (st.length - operN c.op)) = leafK vs ss c := by unfold madeK; rw [h0]; rfl
  rw [kRun, hm, h0, Nat.sub_zero, List.take_length];rfl
 | un o t ih =>
  intro r st;show kRun vs ss (post t ++ [opC o] ++ r) st = _;rw [List.append_assoc, ih h.2.2];by_cases h1 : (kT vs ss t).2 = 0
  ·have h1' : ¬ (kT vs ss t).2 ≠ 0 := fun e => e h1
   have e : kT vs ss (.un o t) = errK (unK o (kT vs ss t).1) := if_neg h1';rw [if_neg h1', e];show kRun vs ss (opC o :: r) _ = _;have hn : operN (opC o).op = 1 := operN_un ⟨h.1, h.2.1⟩;have hl : (st ++ [(kT vs ss t).1]).length - 1 = st.length := by simp
   have hm : madeK vs ss (opC o) [(kT vs ss t).1] = errK (unK o (kT vs ss t).1) := by
    unfold madeK; rw [hn]; rfl
   rw [kRun, hn, hl, List.drop_left, List.take_left, hm]
  ·have e : kT vs ss (.un o t) = (0, (kT vs ss t).2) := if_pos h1;rw [if_pos h1, e, if_pos h1]
 | bin o l r' ihl ihr =>
  intro r st;show kRun vs ss (post l ++ post r' ++ [opC o] ++ r) st = _;rw [List.append_assoc, List.append_assoc, ihl h.2.2.1];by_cases h1 : (kT vs ss l).2 = 0
  ·have h1' : ¬ (kT vs ss l).2 ≠ 0 := fun e => e h1
   rw [if_neg h1', ihr h.2.2.2];by_cases h2 : (kT vs ss r').2 = 0
   ·have h2' : ¬ (kT vs ss r').2 ≠ 0 := fun e => e h2
    have e : kT vs ss (.bin o l r') = joinK o (kT vs ss l).1 (kT vs ss r').1 := (if_neg h1').trans (if_neg h2');rw [if_neg h2', e];show kRun vs ss (opC o :: r) _ = _;have hn : operN (opC o).op = 2 := operN_bin ⟨h.1, h.2.1⟩;have hl : (st ++ [(kT vs ss l).1] ++ [(kT vs ss r').1]).length - 2 = st.length := by simp
    have hd : (st ++ [(kT vs ss l).1] ++ [(kT vs ss r').1]).drop st.length = [(kT vs ss l).1, (kT vs ss r').1] := by
     rw [List.append_assoc, List.drop_left]; rfl
    have ht : (st ++ [(kT vs ss l).1] ++ [(kT vs ss r').1]).take st.length = st := by
     rw [List.append_assoc, List.take_left]
    have hm : madeK vs ss (opC o) [(kT vs ss l).1, (kT vs ss r').1] = joinK o (kT vs ss l).1 (kT vs ss r').1 := by
     unfold madeK; rw [hn]; rfl
    rw [kRun, hn, hl, hd, hm, ht]
   ·have e : kT vs ss (.bin o l r') = (0, (kT vs ss r').2) := (if_neg h1').trans (if_pos h2);rw [if_pos h2, e, if_pos h2]
  ·have e : kT vs ss (.bin o l r') = (0, (kT vs ss l).2) := if_pos h1;rw [if_pos h1, e, if_pos h1]
theorem kind_tree {t : T} (h : OkT t) (hl : (post t).length <= 32) : kindP vs ss (post t) = kT vs ss t := by
 unfold kindP;rw [if_pos (tree_right h hl)];have := run_kT (vs := vs) (ss := ss) h [] [];rw [List.append_nil] at this;rw [this];rcases kT_range (vs := vs) (ss := ss) t with ⟨h1, h2⟩ | ⟨h1, h2⟩
 ·rw [if_neg (by simp [h1])];show ((kT vs ss t).1, (0 : Int)) = _;rw [<- h1]
 ·rw [if_pos h1, <- h2]
end
end Go.Proofs.YtcnfcililiehlaaGreatDoor
namespace Go.Proofs.YtcnfcililiehlaaGreatDoor
open Go.RowKit
def varV (v : VM) : List Value := [bstr v.nm, .int .i64 v.kd, .int .i64 v.lo, .int .i64 v.hi, .int .i64 v.ik, .int .i64 v.ia, .int .i64 v.ib]
def flatV (vs : List VM) : List Value := vs.flatMap varV
theorem flatV_at {vs : List VM} {i : Nat} (h : i < vs.length) {j : Nat} (hj : j < 7) : (flatV vs)[i * 7 + j]? = (varV vs[i])[j]? := by
 induction vs generalizing i with
 | nil => simp at h
 | cons v r ih =>
  show (varV v ++ flatV r)[i * 7 + j]? = _;cases i with
  | zero => rw [List.getElem?_append_left (by simp [varV]; omega)]; simp
  | succ k =>
   rw [List.getElem?_append_right (by simp [varV]; omega)];have e : (k + 1) * 7 + j - (varV v).length = k * 7 + j := by simp [varV]; omega
   rw [e];exact ih (by simpa using h)
def RdV (w : World) (v : Value) (vs : List VM) : Prop := Inn w 7 v vs.length (flatV vs)
def RdW (w : World) (v : Value) (xs : List (List UInt8)) : Prop := Inn w 1 v xs.length (xs.map bstr)
theorem RdV.below {w w' : World} {v : Value} {vs : List VM} (h : RdV w v vs) (hb : Below w.heap.size w w') : RdV w' v vs := Inn.below h hb
theorem RdW.below {w w' : World} {v : Value} {xs : List (List UInt8)} (h : RdW w v xs) (hb : Below w.heap.size w w') : RdW w' v xs := Inn.below h hb
theorem RdV.at_ {w : World} {A : Option Addr} {m c : Nat} {vs : List VM} (h : RdV w (.slice A m c) vs) {k : Nat} (hk : k < vs.length) :
 ∃ b o, A = some ⟨b, o, none⟩ /\ b < w.heap.size /\ w.cell? ⟨b, o + k * 7, none⟩ = some (bstr vs[k].nm) /\ w.cell? ⟨b, o + k * 7 + 1, none⟩ = some (.int .i64 vs[k].kd) /\ w.cell? ⟨b, o + k * 7 + 2, none⟩ = some (.int .i64 vs[k].lo) /\
  w.cell? ⟨b, o + k * 7 + 3, none⟩ = some (.int .i64 vs[k].hi) /\ w.cell? ⟨b, o + k * 7 + 4, none⟩ = some (.int .i64 vs[k].ik) /\ w.cell? ⟨b, o + k * 7 + 5, none⟩ = some (.int .i64 vs[k].ia) /\ w.cell? ⟨b, o + k * 7 + 6, none⟩ = some (.int .i64 vs[k].ib) := by
 obtain ⟨b, o, hA, hlt, hc⟩ := Inn.at_ h hk;exact ⟨b, o, hA, hlt, hc 0 _ ((flatV_at hk (by omega)).trans rfl), hc 1 _ ((flatV_at hk (by omega)).trans rfl), hc 2 _ ((flatV_at hk (by omega)).trans rfl), hc 3 _ ((flatV_at hk (by omega)).trans rfl), hc 4 _ ((flatV_at hk (by omega)).trans rfl), hc 5 _ ((flatV_at hk (by omega)).trans rfl), hc 6 _ ((flatV_at hk (by omega)).trans rfl)⟩
theorem RdW.at_ {w : World} {A : Option Addr} {m c : Nat} {xs : List (List UInt8)} (h : RdW w (.slice A m c) xs) {k : Nat} (hk : k < xs.length) :
 ∃ b o, A = some ⟨b, o, none⟩ /\ b < w.heap.size /\ w.cell? ⟨b, o + k, none⟩ = some (bstr xs[k]) := by
 obtain ⟨b, o, hA, hlt, hc⟩ := Inn.at_ h hk;have := hc 0 (bstr xs[k]) (by simp [hk]);exact ⟨b, o, hA, hlt, by simpa using this⟩
theorem RdV.form {w : World} {v : Value} {vs : List VM} (h : RdV w v vs) : ∃ A c, v = .slice A vs.length c := Inn.form h
theorem RdW.form {w : World} {v : Value} {xs : List (List UInt8)} (h : RdW w v xs) : ∃ A c, v = .slice A xs.length c := Inn.form h
end Go.Proofs.YtcnfcililiehlaaGreatDoor
namespace Go.Proofs.YtcnfcililiehlaaGreatDoor
open Go.RowKit
def ixP {α : Type} (p : α -> Bool) : List α -> Nat -> Int
 | [], _ => -1
 | x :: r, i => if p x = true then i else ixP p r (i + 1)
theorem ix_step {α : Type} {p : α -> Bool} {l : List α} {k : Nat} (hk : k < l.length) : ixP p (l.drop k) k = if p l[k] = true then (k : Int) else ixP p (l.drop (k + 1)) (k + 1) := by
 rw [List.drop_eq_getElem_cons hk]; rfl
theorem ix_end {α : Type} {p : α -> Bool} {l : List α} {k : Nat} (hk : ¬ k < l.length) : ixP p (l.drop k) k = -1 := by
 rw [List.drop_of_length_le (by omega)]; rfl
theorem ix_find {α : Type} (p : α -> Bool) : ∀ (l : List α) (i : Nat), (ixP p l i = -1 /\ l.find? p = none) \/ ∃ j, ∃ h : j < l.length, ixP p l i = ((i + j : Nat) : Int) /\ l.find? p = some l[j]
 | [], i => Or.inl ⟨rfl, rfl⟩
 | x :: r, i => by
  by_cases hx : p x = true
  ·refine Or.inr ⟨0, by simp, ?_, ?_⟩
   ·unfold ixP; rw [if_pos hx]; rfl
   ·simp [hx]
  ·have e1 : ixP p (x :: r) i = ixP p r (i + 1) := if_neg hx;have e2 : (x :: r).find? p = r.find? p := by simp [hx]
   rw [e1, e2];rcases ix_find p r (i + 1) with h | ⟨j, hj, h1, h2⟩
   ·exact Or.inl h
   ·exact Or.inr ⟨j + 1, by simp; omega, by rw [h1]; congr 1; omega, by rw [h2]; rfl⟩
def isN (n : List UInt8) (x : List UInt8) : Bool := decide (x = n)
theorem ix_mem (l : List (List UInt8)) (n : List UInt8) : decide (0 <= ixP (isN n) l 0) = decide (n ∈ l) := by
 rcases ix_find (isN n) l 0 with ⟨h1, h2⟩ | ⟨j, hj, h1, h2⟩
 ·rw [h1];have : n ∉ l := by
   intro hm;have := List.find?_eq_none.1 h2 n hm;simp [isN] at this
  simp [this]
 ·rw [h1];have := List.find?_some h2;simp [isN] at this;have hm : n ∈ l := by rw [<- this]; exact List.getElem_mem _
  simp [hm]
theorem ix_range {α : Type} (p : α -> Bool) (l : List α) : ixP p l 0 = -1 \/ (0 <= ixP p l 0 /\ ixP p l 0 < l.length) := by
 rcases ix_find p l 0 with ⟨h1, h2⟩ | ⟨j, hj, h1, h2⟩
 ·exact Or.inl h1
 ·right; rw [h1]; omega
theorem str_ne {X Y : ByteArray} (h : X.data.toList ≠ Y.data.toList) : (X.toList == Y.toList) = false := by
 rw [Lib.toList_data, Lib.toList_data]; exact beq_eq_false_iff_ne.2 h
theorem str_eq {X Y : ByteArray} (h : X.data.toList = Y.data.toList) : X = Y := by apply ByteArray.ext; exact Array.toList_inj.1 h
theorem bstr_some (l : List UInt8) : ∃ X : ByteArray, bstr l = .string X /\ X.data.toList = l := ⟨⟨l.toArray⟩, rfl, rfl⟩
set_option maxHeartbeats 1000000 in
theorem strIndex_any (v : Value) (xs : List (List UInt8)) (N : ByteArray) (w : World) (hR : RdW w v xs) (hl : xs.length <= 9223372036854775807) :
 Calls Tryz.prog 204 #[v, .string N] w fun e w' => e = .returned (.int .i64 (ixP (isN N.data.toList) xs 0)) /\ w = w' := by
 obtain ⟨A, c, rfl⟩ := hR.form;have HR := Lib.hid hR; clear hR;obtain ⟨n, hn⟩ : ∃ n, xs.length = n := ⟨_, rfl⟩
 have HN := Lib.hid hn;rw [hn] at hl HR ⊢;clear hn
 go_enter Tryz.func204, Tryz.ntmps204
 go_wp2
 go_loop [4, 5, 8] (fun x4 x5 i => x4 = .int .i64 0 /\ (x5 = .int .i64 0 \/ True) /\ ∃ k : Nat, k <= n /\ i = .int .i64 k /\ Hid (ixP (isN N.data.toList) (xs.drop k) k = ixP (isN N.data.toList) xs 0)) (fun _ _ i => n - (intOf i).toNat)
 case atStart => exact ⟨rfl, Or.inr trivial, 0, by omega, rfl, rfl⟩
 case round =>
  obtain ⟨rfl, _, k, hk, rfl, HI⟩ := hrel;by_cases hkn : k < n
  ·obtain ⟨b, o, rfl, _, hc⟩ := HR.out.at_ (k := k) (by rw [HN.out]; exact hkn);have hst := ix_step (p := isN N.data.toList) (l := xs) (k := k) (by rw [HN.out]; exact hkn);rw [HI.out] at hst;obtain ⟨X, hX, hXl⟩ := bstr_some (xs[k]'(by rw [HN.out]; exact hkn));rw [hX] at hc;rw [<- hXl] at hst;clear hX hXl;by_cases he : X.data.toList = N.data.toList
   ·obtain rfl := str_eq he;have hr : ixP (isN X.data.toList) xs 0 = k := by rw [hst, if_pos (by simp [isN])]
    have HRR := Lib.hid hr;clear hst hr he HI;go_wp2;go_ret;exact ⟨ret_int HRR.out.symm, rfl⟩
   ·have hr : ixP (isN N.data.toList) (xs.drop (k + 1)) (k + 1) = ixP (isN N.data.toList) xs 0 := by rw [hst, if_neg (by simp [isN, he])]
    have HRR := Lib.hid hr;have hne := str_ne he;have hne' := str_ne (Ne.symm he);clear hst hr he HI;go_wp2
    go_round
    case rel => exact ⟨rfl, Or.inr trivial, k + 1, by omega, by go_num, HRR.out⟩
    case measure => simp [intOf]; omega
  ·have hr : ixP (isN N.data.toList) xs 0 = -1 := by rw [<- HI.out, ix_end (by rw [HN.out]; exact hkn)]
   have HRR := Lib.hid hr;clear hr HI;go_wp2;go_ret;exact ⟨ret_int HRR.out.symm, rfl⟩
theorem strContains_any (v : Value) (xs : List (List UInt8)) (N : ByteArray) (w : World) (hR : RdW w v xs) (hl : xs.length <= 9223372036854775807) :
 Calls Tryz.prog 166 #[v, .string N] w fun e w' => e = .returned (.bool (decide (N.data.toList ∈ xs))) /\ w = w' := by
 have HI := Lib.hid (strIndex_any v xs N w hR hl);have HM := Lib.hid (ix_mem xs N.data.toList);clear hR
 go_enter Tryz.func166, Tryz.ntmps166
 go_wp2_with fail
 refine HI.out.mono ?_;rintro e w1 ⟨rfl, rfl⟩;go_wp2;go_ret;exact ⟨ret_bool HM.out, rfl⟩
set_option maxHeartbeats 1000000 in
theorem refHas_any (v : Value) (xs : List (List UInt8)) (N : ByteArray) (w : World) (hR : RdW w v xs) (hl : xs.length <= 9223372036854775807) :
 Calls Tryz.prog 96 #[v, .string N] w fun e w' => e = .returned (.bool (decide (N.data.toList ∈ xs))) /\ w = w' := by
 obtain ⟨A, c, rfl⟩ := hR.form;have HR := Lib.hid hR; clear hR;have HM := Lib.hid (ix_mem xs N.data.toList);obtain ⟨n, hn⟩ : ∃ n, xs.length = n := ⟨_, rfl⟩
 have HN := Lib.hid hn;rw [hn] at hl HR ⊢;clear hn
 go_enter Tryz.func96, Tryz.ntmps96
 go_wp2
 go_loop [4, 5] (fun x4 i => x4 = .bool false /\ ∃ k : Nat, k <= n /\ i = .int .i64 k /\ Hid (ixP (isN N.data.toList) (xs.drop k) k = ixP (isN N.data.toList) xs 0)) (fun _ i => n - (intOf i).toNat)
 case atStart => exact ⟨rfl, 0, by omega, rfl, rfl⟩
 case round =>
  obtain ⟨rfl, k, hk, rfl, HI⟩ := hrel;by_cases hkn : k < n
  ·obtain ⟨b, o, rfl, _, hc⟩ := HR.out.at_ (k := k) (by rw [HN.out]; exact hkn);have hst := ix_step (p := isN N.data.toList) (l := xs) (k := k) (by rw [HN.out]; exact hkn);rw [HI.out] at hst;obtain ⟨X, hX, hXl⟩ := bstr_some (xs[k]'(by rw [HN.out]; exact hkn));rw [hX] at hc;rw [<- hXl] at hst;clear hX hXl;by_cases he : X.data.toList = N.data.toList
   ·obtain rfl := str_eq he;have hr : decide (X.data.toList ∈ xs) = true := by rw [<- HM.out, hst, if_pos (by simp [isN])]; simp
    have HRR := Lib.hid hr;clear hst hr he HI;go_wp2;go_ret;exact ⟨ret_bool HRR.out.symm, rfl⟩
   ·have hr : ixP (isN N.data.toList) (xs.drop (k + 1)) (k + 1) = ixP (isN N.data.toList) xs 0 := by rw [hst, if_neg (by simp [isN, he])]
    have HRR := Lib.hid hr;have hne := str_ne he;have hne' := str_ne (Ne.symm he);clear hst hr he HI;go_wp2
    go_round
    case rel => exact ⟨rfl, k + 1, by omega, by go_num, HRR.out⟩
    case measure => simp [intOf]; omega
  ·have hr : decide (N.data.toList ∈ xs) = false := by rw [<- HM.out, <- HI.out, ix_end (by rw [HN.out]; exact hkn)]; rfl
   have HRR := Lib.hid hr;clear hr HI;go_wp2;go_ret;exact ⟨ret_bool HRR.out.symm, rfl⟩
end Go.Proofs.YtcnfcililiehlaaGreatDoor
namespace Go.Proofs.YtcnfcililiehlaaGreatDoor
structure VA where
 kd : Int
 a : Int
 b : Int
def inB (n : Int) : Bool := decide (-1048576 <= n /\ n <= 1048576)
def rightV (v : VA) : Bool :=
 if v.kd = 1 then decide (v.b = 0) else if v.kd = 2 then decide (v.b = 0) && (decide (v.a = 0) || decide (v.a = 1)) else if v.kd = 3 then inB v.a && inB v.b else false
def isV (n : List UInt8) (v : VM) : Bool := decide (v.nm = n)
end Go.Proofs.YtcnfcililiehlaaGreatDoor
namespace Go.Proofs.YtcnfcililiehlaaGreatDoor
def begN : List CM -> Nat -> Nat
 | [], _ => 1000
 | c :: r, want => if want - 1 + operN c.op = 0 then 1 else 1 + begN r (want - 1 + operN c.op)
theorem beg_cons (c : CM) (r : List CM) (want : Nat) : begN (c :: r) want = if want - 1 + operN c.op = 0 then 1 else 1 + begN r (want - 1 + operN c.op) := rfl
theorem beg_tree {t : T} (h : OkT t) : ∀ (r : List CM) (k : Nat), begN ((post t).reverse ++ r) (k + 1) = if k = 0 then (post t).length else (post t).length + begN r k := by
 induction t with
 | leaf c =>
  intro r k;show begN (c :: r) (k + 1) = _;rw [beg_cons, h.2, Nat.add_sub_cancel, Nat.add_zero];rfl
 | un o t ih =>
  intro r k;have e : (post (.un o t)).reverse ++ r = opC o :: ((post t).reverse ++ r) := by simp [post]
  have hl : (post (.un o t)).length = 1 + (post t).length := by simp [post]; omega
  rw [e, hl];rw [beg_cons, show operN (opC o).op = 1 from operN_un ⟨h.1, h.2.1⟩, Nat.add_sub_cancel, if_neg (by omega), ih h.2.2 r k];split <;> omega
 | bin o l r' ihl ihr =>
  intro r k;have e : (post (.bin o l r')).reverse ++ r = opC o :: ((post r').reverse ++ ((post l).reverse ++ r)) := by simp [post]
  have hl : (post (.bin o l r')).length = 1 + (post r').length + (post l).length := by simp [post]; omega
  rw [e, hl];rw [beg_cons, show operN (opC o).op = 2 from operN_bin ⟨h.1, h.2.1⟩, Nat.add_sub_cancel, if_neg (by omega), ihr h.2.2.2 _ (k + 1), if_neg (by omega), ihl h.2.2.1 r k];split <;> omega
end Go.Proofs.YtcnfcililiehlaaGreatDoor
namespace Go.Proofs.YtcnfcililiehlaaGreatDoor
open Go.RowKit
theorem begN_pos (l : List CM) (k : Nat) : 1 <= begN l k := by
 cases l with
 | nil => show 1 <= 1000; omega
 | cons c r => rw [beg_cons]; split <;> omega
theorem beg_step {cs : List CM} {k v p : Nat} (hk : k < cs.length) (hp : p <= k) (h : begN (cs.take (k + 1)).reverse v = k + 1 - p) :
 (v - 1 + operN (cs[k]).op = 0 -> k = p) /\ (v - 1 + operN (cs[k]).op ≠ 0 -> p < k /\ begN (cs.take (k - 1 + 1)).reverse (v - 1 + operN (cs[k]).op) = k - 1 + 1 - p) := by
 rw [List.take_succ_eq_append_getElem hk, List.reverse_append] at h
 change begN (cs[k] :: (cs.take k).reverse) v = _ at h
 rw [beg_cons] at h;refine ⟨fun h0 => by rw [if_pos h0] at h; omega, fun h0 => ?_⟩;rw [if_neg h0] at h;have h1 := begN_pos (cs.take k).reverse (v - 1 + operN (cs[k]).op);by_cases hk0 : k = 0
 ·subst hk0;have : begN (cs.take 0).reverse (v - 1 + operN (cs[0]).op) = 1000 := rfl;omega
 ·have e : k - 1 + 1 = k := by omega
  rw [e];exact ⟨by omega, by omega⟩
set_option maxRecDepth 100000 in
set_option maxHeartbeats 2000000 in
theorem begin_any (v : Value) (cs : List CM) (w : World) (hR : RdC w v cs) (hF : ∀ c ∈ cs, formedB c = true) (hl : cs.length <= 32) (p e : Nat) (he : e < cs.length) (hp : p <= e) (hb : begN (cs.take (e + 1)).reverse 1 = e + 1 - p) :
 Calls Tryz.prog 183 #[v, .int .i64 e] w fun x w' => x = .returned (.int .i64 p) /\ Below w.heap.size w w' := by
 obtain ⟨A, c, rfl, hr⟩ := hR;have HR := Lib.hid hr; have HF := Lib.hid hF; have HBEG := Lib.hid hb; clear hr hF hb;obtain ⟨n, hn⟩ : ∃ n, cs.length = n := ⟨_, rfl⟩
 have HN := Lib.hid hn;rw [hn] at hl he ⊢;clear hn
 go_enter Tryz.func183, Tryz.ntmps183
 go_wp2
 go_loopw [4, 5, 6] (fun x4 want i wr => x4 = .int .i64 0 /\ ∃ k vs : Nat, k <= e /\ p <= k /\ 1 <= vs /\ vs + k <= e + 1 /\ want = .int .i64 vs /\ i = .int .i64 k /\ Hid (begN (cs.take (k + 1)).reverse vs = k + 1 - p) /\ Below w.heap.size w wr) (fun _ _ i _ => (intOf i).toNat)
 case atStart => exact ⟨rfl, e, 1, by omega, hp, by omega, by omega, rfl, rfl, HBEG, Below.refl _ _⟩
 case round =>
  obtain ⟨rfl, k, vs, hke, hpk, hv1, hvk, rfl, rfl, HB, hb⟩ := hrel;have HBL := Lib.hid hb;have hkn : k < n := by omega
  obtain ⟨b, o, rfl, d0, d1, d2⟩ := HR.out k (by rw [HN.out]; exact hkn);have hstep := beg_step (cs := cs) (k := k) (v := vs) (p := p) (by rw [HN.out]; exact hkn) hpk HB.out;have hfm := HF.out (cs[k]'(by rw [HN.out]; exact hkn)) (List.getElem_mem _);obtain ⟨cc, hcc⟩ : ∃ cc, cs[k]'(by rw [HN.out]; exact hkn) = cc := ⟨_, rfl⟩
  rw [hcc] at d0 d1 d2 hstep hfm;have hnm := formed_name hfm;have e0 := (hb.cell (cell_lt d0)).trans d0;have e1 := (hb.cell (cell_lt d1)).trans d1;have e2 := (hb.cell (cell_lt d2)).trans d2;have hon := operN_le cc.op;obtain ⟨X, hX⟩ : ∃ X : ByteArray, bstr cc.nm = .string X := ⟨_, rfl⟩
  have hops := fun W => refOperands_any cc W (by omega)
  rw [hX, opsR_yes hfm] at hops;rw [hX] at e2;have HOP := Lib.hid hops;have HST := Lib.hid hstep;clear d0 d1 d2 hcc hb hX hfm hops hstep hnm;generalize operN cc.op = on at *
  by_cases hz : vs - 1 + on = 0
  ·have hkp := Lib.hid (HST.out.1 hz);have hz' : ((vs : Int) - 1 + (on : Int) == 0) = true := by simp; omega
   clear hz
   go_wp2_with fail
   refine (HOP.out _).mono ?_;rintro x w2 ⟨rfl, hb2⟩;have HB2 := Lib.hid (HBL.out.trans (hb2.mono HBL.out.size)); clear hb2;go_wp2;go_ret;exact ⟨ret_int (show (k : Int) = (p : Int) by rw [hkp.out]), HB2.out⟩
  ·obtain ⟨hkp, hnx⟩ := HST.out.2 hz;have HNX := Lib.hid hnx;have hz' : ((vs : Int) - 1 + (on : Int) == 0) = false := by simp; omega
   have hv1' : 1 <= vs - 1 + on := by omega
   clear hz hnx
   go_wp2_with fail
   refine (HOP.out _).mono ?_;rintro x w2 ⟨rfl, hb2⟩;have HB2 := Lib.hid (HBL.out.trans (hb2.mono HBL.out.size)); clear hb2;go_wp2
   go_roundw
   case rel => exact ⟨rfl, k - 1, vs - 1 + on, by omega, by omega, by omega, by omega, by congr 1; omega, by congr 1; omega, HNX, HB2.out⟩
   case measure => simp [intOf]; omega
end Go.Proofs.YtcnfcililiehlaaGreatDoor
namespace Go.Proofs.YtcnfcililiehlaaGreatDoor
open Go.RowKit
@[go_sem] theorem run_store_complex (P : Program) (w : World) (a : Addr) (m : Mode) (k : FloatKind) (x y : Nat) : (store a (.complex k x y) m).run P w = stored P w a (.complex k x y) m := run_store P w a _ m rfl
def fl (a : Int) : Nat := floatOfInt .f64 a
end Go.Proofs.YtcnfcililiehlaaGreatDoor
namespace Go.Proofs.YtcnfcililiehlaaGreatDoor
open Go.RowKit
theorem vwithin_any (n : Int) (w : World) :
 Calls Tryz.prog 222 #[.int .i64 n] w fun e w' => e = .returned (.bool (inB n)) /\ w = w' := by
 by_cases h1 : -1048576 <= n
 ·by_cases h2 : n <= 1048576
  ·have hL : inB n = true := decide_eq_true ⟨h1, h2⟩;rw [hL]; clear hL
   go_enter Tryz.func222, Tryz.ntmps222
   go_wp2;go_ret;exact ⟨rfl, rfl⟩
  ·have hL : inB n = false := decide_eq_false (fun h => h2 h.2);rw [hL]; clear hL
   go_enter Tryz.func222, Tryz.ntmps222
   go_wp2;go_ret;exact ⟨rfl, rfl⟩
 ·have hL : inB n = false := decide_eq_false (fun h => h1 h.1);rw [hL]; clear hL
  go_enter Tryz.func222, Tryz.ntmps222
  go_wp2;go_ret;exact ⟨rfl, rfl⟩
def outC (a b : Int) : Ending := if (inB a && inB b) = true then .returned (.tuple #[.complex .f64 (fl a) (fl b), .int .i64 0]) else .returned (.tuple #[.complex .f64 0 0, .int .i64 5])
theorem outC_ok {a b : Int} (h : (inB a && inB b) = true) : outC a b = .returned (.tuple #[.complex .f64 (fl a) (fl b), .int .i64 0]) := if_pos h
theorem outC_no {a b : Int} (h : ¬ (inB a && inB b) = true) : outC a b = .returned (.tuple #[.complex .f64 0 0, .int .i64 5]) := if_neg h
theorem made_any (a b : Int) (w : World) :
 Calls Tryz.prog 188 #[.int .i64 a, .int .i64 b] w fun e w' => e = outC a b /\ w = w' := by
 by_cases h : (inB a && inB b) = true
 ·rw [outC_ok h];simp only [Bool.and_eq_true] at h;obtain ⟨ha, hb⟩ := h
  go_enter Tryz.func188, Tryz.ntmps188
  go_wp2_with (go_at_call 222; refine (vwithin_any _ _).mono ?_; rintro e w' ⟨rfl, rfl⟩)
  go_ret2;exact ⟨rfl, rfl⟩
 ·rw [outC_no h];cases ha : inB a
  ·clear h
   go_enter Tryz.func188, Tryz.ntmps188
   go_wp2_with (go_at_call 222; refine (vwithin_any _ _).mono ?_; rintro e w' ⟨rfl, rfl⟩)
   go_ret2;exact ⟨rfl, rfl⟩
  ·rw [ha, Bool.true_and] at h;simp only [Bool.not_eq_true] at h
   go_enter Tryz.func188, Tryz.ntmps188
   go_wp2_with (go_at_call 222; refine (vwithin_any _ _).mono ?_; rintro e w' ⟨rfl, rfl⟩)
   go_ret2;exact ⟨rfl, rfl⟩
theorem outC_form (a b : Int) : ∃ c1 c2 er, outC a b = .returned (.tuple #[.complex .f64 c1 c2, .int .i64 er]) := by
 unfold outC;split
 ·exact ⟨_, _, _, rfl⟩
 ·exact ⟨_, _, _, rfl⟩
end Go.Proofs.YtcnfcililiehlaaGreatDoor
namespace Go.Proofs.YtcnfcililiehlaaGreatDoor
open Go.RowKit
theorem evRight_any (v : VA) (w : World) :
 Calls Tryz.prog 172 #[.agg #[.int .i64 v.kd, .int .i64 v.a, .int .i64 v.b]] w fun e w' => e = .returned (.bool (rightV v)) /\ Below w.heap.size w w' := by
 obtain ⟨k, a, b⟩ := v;have HB : Hid (∀ W : World, ∀ o : Obj, Below W.heap.size W (W.alloc o)) := fun W o => (Below.refl _ _).alloc (Nat.le_refl _) o
 show Calls _ _ #[.agg #[.int .i64 k, .int .i64 a, .int .i64 b]] _ _;by_cases h1 : k = 1
 ·subst h1;have e : rightV ⟨1, a, b⟩ = decide (b = 0) := rfl;rw [e];by_cases hb : b = 0
  ·rw [decide_eq_true hb]; subst hb
   go_enter Tryz.func172, Tryz.ntmps172
   go_wp2;go_ret;exact ⟨rfl, HB.out _ _⟩
  ·rw [decide_eq_false hb]; have tb := int_ne hb
   go_enter Tryz.func172, Tryz.ntmps172
   go_wp2;go_ret;exact ⟨rfl, HB.out _ _⟩
 ·have t1 := int_ne h1;by_cases h2 : k = 2
  ·subst h2;have e : rightV ⟨2, a, b⟩ = (decide (b = 0) && (decide (a = 0) || decide (a = 1))) := rfl;rw [e];clear e h1;by_cases hb : b = 0
   ·rw [decide_eq_true hb]; subst hb;by_cases h0 : a = 0
    ·subst h0
     go_enter Tryz.func172, Tryz.ntmps172
     go_wp2;go_ret;exact ⟨rfl, HB.out _ _⟩
    ·rw [decide_eq_false h0]; have ta := int_ne h0;by_cases h1 : a = 1
     ·subst h1
      go_enter Tryz.func172, Tryz.ntmps172
      go_wp2;go_ret;exact ⟨rfl, HB.out _ _⟩
     ·rw [decide_eq_false h1]; have ta1 := int_ne h1
      go_enter Tryz.func172, Tryz.ntmps172
      go_wp2;go_ret;exact ⟨rfl, HB.out _ _⟩
   ·rw [decide_eq_false hb]; have tb := int_ne hb
    go_enter Tryz.func172, Tryz.ntmps172
    go_wp2;go_ret;exact ⟨rfl, HB.out _ _⟩
  ·have t2 := int_ne h2;by_cases h3 : k = 3
   ·subst h3;have e : rightV ⟨3, a, b⟩ = (inB a && inB b) := rfl;rw [e];clear e h1 h2;obtain ⟨g1, g2, ge, hg⟩ := outC_form a b;have HOC := Lib.hid hg;have HA := Lib.hid (fun W => made_any a b W);have hge : (inB a && inB b) = (ge == 0) := by
     by_cases c : (inB a && inB b) = true
     ·rw [outC_ok c] at hg;simp at hg;rw [c, <- hg.2]; rfl
     ·rw [outC_no c] at hg;simp at hg;rw [(Bool.not_eq_true _).mp c, <- hg.2]; rfl
    rw [hge];clear hge hg
    go_enter Tryz.func172, Tryz.ntmps172
    go_wp2_with fail
    refine (HA.out _).mono ?_;rintro e w' ⟨rfl, rfl⟩;rw [HOC.out];go_wp2;go_ret;exact ⟨rfl, HB.out _ _⟩
   ·have t3 := int_ne h3;have e : rightV ⟨k, a, b⟩ = false := by
     show (if k = 1 then _ else if k = 2 then _ else if k = 3 then _ else false) = false;rw [if_neg h1, if_neg h2, if_neg h3]
    rw [e];clear e h1 h2 h3
    go_enter Tryz.func172, Tryz.ntmps172
    go_wp2;go_ret;exact ⟨rfl, HB.out _ _⟩
end Go.Proofs.YtcnfcililiehlaaGreatDoor
