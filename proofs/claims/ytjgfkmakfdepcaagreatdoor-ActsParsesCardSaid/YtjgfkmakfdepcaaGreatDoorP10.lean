/- Own texts, joined: Ox, Ka, Kb, Kq, Ip, Va, Fl. -/
import Derived.Test.YtjgfkmakfdepcaaGreatDoorP1
import Derived.Test.YtjgfkmakfdepcaaGreatDoorP3
import Derived.Test.YtjgfkmakfdepcaaGreatDoorP9
import Derived.Laws.AppendOwnNone
import Derived.WalkLawsBesides
import Derived.KernelRfl
namespace Go.Proofs.YtjgfkmakfdepcaaGreatDoor
open Go Go.RowKit

/-- a slice that is read: nil, or cells in a row -/
def Inn (w : World) (size : Nat) (v : Value) (n : Nat) (xs : List Value) : Prop :=
  (v = .slice none 0 0 ∧ n = 0 ∧ xs = []) ∨ ∃ ad c, v = .slice (some ad) n c ∧ xs.length = n * size ∧ (0 < n → ∃ b o, ad = ⟨b, o, none⟩ ∧ b < w.heap.size ∧ ∀ j u, xs[j]? = some u → w.cell? ⟨b, o + j, none⟩ = some u)
theorem Inn.same {w w' : World} {size : Nat} {v : Value} {n : Nat} {xs : List Value} (h : Inn w size v n xs) (hs : w.heap.size ≤ w'.heap.size) (hb : ∀ k, k < w.heap.size → w'.heap[k]? = w.heap[k]?) : Inn w' size v n xs := by
  rcases h with h | ⟨ad, c, e, hl, h⟩
  · exact Or.inl h
  · refine Or.inr ⟨ad, c, e, hl, fun hn => ?_⟩
    obtain ⟨b, o, e, hlt, hc⟩ := h hn
    refine ⟨b, o, e, by omega, fun j u hu => ?_⟩
    rw [World.cell?_of_block (w := w) (hb _ hlt)]
    exact hc j u hu
theorem Inn.below {w w' : World} {size : Nat} {v : Value} {n : Nat} {xs : List Value} (h : Inn w size v n xs) (hb : Below w.heap.size w w') : Inn w' size v n xs := h.same hb.size hb.block
theorem Inn.form {w : World} {size : Nat} {v : Value} {n : Nat} {xs : List Value} (h : Inn w size v n xs) : ∃ A c, v = .slice A n c := by
  rcases h with ⟨rfl, rfl, _⟩ | ⟨ad, c, rfl, _⟩
  · exact ⟨_, _, rfl⟩
  · exact ⟨_, _, rfl⟩
theorem Inn.len {w : World} {size : Nat} {v : Value} {n : Nat} {xs : List Value} (h : Inn w size v n xs) : xs.length = n * size := by
  rcases h with ⟨_, rfl, rfl⟩ | ⟨ad, c, _, h, _⟩
  · simp
  · exact h
theorem Inn.at_ {w : World} {size : Nat} {A : Option Addr} {m c : Nat} {n : Nat} {xs : List Value} (h : Inn w size (.slice A m c) n xs) {k : Nat} (hk : k < n) :
    ∃ b o, A = some ⟨b, o, none⟩ ∧ b < w.heap.size ∧ ∀ j u, xs[k * size + j]? = some u → w.cell? ⟨b, o + k * size + j, none⟩ = some u := by
  rcases h with ⟨_, rfl, _⟩ | ⟨ad, c', e, _, h⟩
  · omega
  · simp only [Value.slice.injEq] at e
    obtain ⟨b, o, rfl, hlt, hc⟩ := h (by omega)
    exact ⟨b, o, e.1, hlt, fun j u hu => by rw [Nat.add_assoc]; exact hc _ u hu⟩
theorem Inn.of_own {w : World} {B : Nat} {e : TypeId} {size n : Nat} {v : Value} {xs : List Value} (h : w.ownsRow B e size v n xs) : Inn w size v n xs := by
  rcases h.2 with ⟨rfl, rfl⟩ | ⟨g, cap, cur, rfl, _⟩
  · exact Or.inl ⟨rfl, rfl, by have := h.1; simp at this; exact this⟩
  · have hlt := (h.lt g rfl).2
    exact Or.inr ⟨⟨g, 0, none⟩, cap, rfl, h.1, fun _ => ⟨g, 0, rfl, hlt, fun j u hu => by
      have := h.cells (g := g) rfl j u hu
      rw [add_lit'] at this; exact this⟩⟩
theorem Inn.nil (w : World) (size : Nat) : Inn w size (.slice none 0 0) 0 [] := Or.inl ⟨rfl, rfl, rfl⟩
/-- cells that come in, and as a row -/
theorem RdI.inn {w : World} {v : Value} {cs : List CM} (h : RdI w v cs) : Inn w 3 v cs.length (flat cs) := by
  rcases h with ⟨rfl, rfl⟩ | ⟨ad, c, rfl, h⟩
  · exact Inn.nil _ _
  · by_cases h0 : 0 < cs.length
    · obtain ⟨A, c', e, hr⟩ := h
      simp only [Value.slice.injEq] at e
      obtain ⟨b, o, hA, d0, _⟩ := hr 0 h0
      rw [hA] at e
      obtain ⟨e1, _, rfl⟩ := e
      obtain rfl := Option.some.inj e1
      refine Or.inr ⟨⟨b, o, none⟩, c, rfl, by rw [flat_length], fun _ => ⟨b, o, rfl, cell_lt d0, fun j u hu => ?_⟩⟩
      obtain ⟨i, hi, hc⟩ := flat_get hu
      obtain ⟨b', k, hA', d0, d1, d2⟩ := hr i hi
      rw [hA] at hA'
      simp only [Option.some.injEq, Addr.mk.injEq, and_true] at hA'
      obtain ⟨rfl, rfl⟩ := hA'
      rcases hc with ⟨rfl, rfl⟩ | ⟨rfl, rfl⟩ | ⟨rfl, rfl⟩
      · exact d0
      · rw [← Nat.add_assoc]; exact d1
      · rw [← Nat.add_assoc]; exact d2
    · have : cs = [] := List.eq_nil_of_length_eq_zero (by omega)
      subst this
      exact Or.inr ⟨ad, c, rfl, rfl, fun h => absurd h (by simp)⟩
namespace Ow
theorem walk_cons {P : Program} {ops : Array Oper} {Q : Exit → Act → World → Prop} {md : Region.Mode} {Rs : List Rel} {owns : List Bool} {eats : List (Option Nat)} {base : Nat} {w0 : World} {l r : List Oper} {o : Oper} {i : Nat} {a : Act} {vs : List Value} {f : Value → Act} {us : Value → List Value}
    (hl : l = o :: r) (h : Duty P ops md Rs owns eats base w0 i o a vs) (hf : ∀ v, a.put o.dst v = f v) (hu : ∀ v, vs ++ [v] = us v) (hr : ∀ v, Walk P ops Q md Rs owns eats base w0 r (i + 1) (f v) (us v)) : Walk P ops Q md Rs owns eats base w0 l i a vs := by
  subst hl; exact ⟨h, fun v => by rw [hf, hu]; exact hr v⟩
theorem walk_nil {P : Program} {ops : Array Oper} {Q : Exit → Act → World → Prop} {md : Region.Mode} {Rs : List Rel} {owns : List Bool} {eats : List (Option Nat)} {base : Nat} {w0 : World} {l : List Oper} {i : Nat} {a : Act} {vs : List Value}
    (hl : l = []) (h : ∀ w, Below base w0 w → (∀ j, (Nat.blt j ops.size && !eatenB eats j) = true → rel Rs j (vs.getD j undef) w) → Q .normal a w) : Walk P ops Q md Rs owns eats base w0 l i a vs := by
  subst hl
  refine fun w hb hd => h w hb fun j hj => ?_
  rw [Bool.and_eq_true] at hj
  exact hd j (by simpa using hj.1) (by simpa using hj.2)
section
variable {Rs : List Rel} {owns : List Bool} {eats : List (Option Nat)} {base : Nat} {w w' : World} {vs : List Value} {i : Nat} {v : Value}

def KeepsL (base : Nat) : List Bool → List Rel → Prop
  | o :: os, R :: rs => Keeps1 base o R ∧ KeepsL base os rs
  | [], R :: rs => Keeps1 base false R ∧ KeepsL base [] rs
  | _, [] => True
theorem KeepsL.all : ∀ (os : List Bool) (rs : List Rel), KeepsL base os rs → ∀ i, Keeps1 base (os.getD i false) (rel rs i)
  | o :: os, R :: rs, h, 0 => h.1
  | o :: os, R :: rs, h, i + 1 => KeepsL.all os rs h.2 i
  | [], R :: rs, h, 0 => h.1
  | [], R :: rs, h, i + 1 => KeepsL.all [] rs h.2 i
  | [], [], _, i => fun _ _ _ _ h _ _ _ => by cases i <;> exact h
  | _ :: _, [], _, i => fun _ _ _ _ _ _ _ _ => by simp [rel]

theorem keeps_eq (x : Value) (o : Bool) : Keeps1 base o (eqR x) := fun _ _ _ _ h _ _ _ => h
theorem keeps_own (b0 : Nat) (e : TypeId) (size n : Nat) (xs : List Value) : Keeps1 base true (fun v w => w.ownsRow b0 e size v n xs) := by
  intro v w w' row h hg _ hne
  refine h.kept hg ?_
  cases hv : v.ownBlock with
  | none => exact Or.inl rfl
  | some g => exact Or.inr (fun e => hne rfl g e.symm hv)

theorem good_same (_h1 : eatsAt eats i = none) (h2 : owns.getD i false = false) (h3 : rel Rs i v w) : Good Rs owns base (rowV eats vs i) i w v w :=
  ⟨h3, ⟨rfl, rfl, rfl, Nat.le_refl _, fun _ _ _ => rfl⟩, fun h => by rw [h2] at h; cases h⟩
theorem good_below (_h1 : eatsAt eats i = none) (h2 : owns.getD i false = false) (hb : Below w.heap.size w w') (h3 : rel Rs i v w') : Good Rs owns base (rowV eats vs i) i w v w' :=
  ⟨h3, grown_of_below hb _, fun h => by rw [h2] at h; cases h⟩
theorem good_new (_h1 : eatsAt eats i = none) (hbase : base ≤ w.heap.size) (hb : Below w.heap.size w w') (h3 : rel Rs i v w') (ho : ∀ g, v.ownBlock = some g → w.heap.size ≤ g ∧ g < w'.heap.size) : Good Rs owns base (rowV eats vs i) i w v w' :=
  ⟨h3, grown_of_below hb _, fun _ g hg => by have := ho g hg; exact ⟨by omega, this.2, Or.inl this.1⟩⟩
theorem good_eat {k : Nat} (h1 : eatsAt eats i = some k) (hbase : base ≤ w.heap.size) (hg : w.grownBy w' (vs.getD k undef).ownBlock) (h3 : rel Rs i v w') (hk : ∀ g, (vs.getD k undef).ownBlock = some g → base ≤ g)
    (hv : (v.ownBlock = (vs.getD k undef).ownBlock ∧ ∀ g, v.ownBlock = some g → g < w'.heap.size) ∨ ∀ g, v.ownBlock = some g → w.heap.size ≤ g ∧ g < w'.heap.size) : Good Rs owns base (rowV eats vs i) i w v w' := by
  have hr : rowV eats vs i = (vs.getD k undef).ownBlock := by unfold rowV; rw [h1]
  refine ⟨h3, by rw [hr]; exact hg, fun _ g hgv => ?_⟩
  rcases hv with ⟨e, h⟩ | h
  · exact ⟨hk g (e ▸ hgv), h g hgv, Or.inr (by rw [hr, ← e]; exact hgv)⟩
  · have := h g hgv
    exact ⟨by omega, this.2, Or.inl this.1⟩
end

theorem region_own' {P : Program} {ops : Array Oper} {Q : Exit → Act → World → Prop} {id : Nat} {a0 : Act} {w : World} (n : Nat) (Rs : List Rel) (owns : List Bool) (eats : List (Option Nat)) (hm : P.follows .mixedOrders = true) (hn : a0.tmps.size = n) (hs : shapeB .any ops owns eats n = true)
    (hK : KeepsL w.heap.size owns Rs) (hW : Walk P ops Q .any Rs owns eats w.heap.size w.drew ops.toList 0 a0 []) : (Code.region id ops true).wp P Q a0 w :=
  region_own Rs owns eats hm hn hs (fun i _ => KeepsL.all _ _ hK i) hW

/-- an append of what is read onto a row of one's own -/
theorem oper_append {P : Program} {o : Oper} {a : Act} {w : World} {K : Act → World → Prop} {Q : Exit → Act → World → Prop} (s x : Operand) (t : TypeId)
    (ho : o.op = .call { callee := .builtin .append, args := #[s, x], argTypes := #[t, t] })
    (base : Nat) (e : TypeId) (i : TypeInfo) (z : Value) (size bytes : Nat) (ht : P.underlying t = some (.slice e)) (hi : P.info? e = some i) (hz : i.zero = some z)
    (hsize : i.size = size) (hby : i.bytes = bytes) (hzs : z.cells.size = size) (hsz : 0 < size)
    (v : Value) (n : Nat) (xs : List Value) (hs : a.eval s = v) (hown : w.ownsRow base e size v n xs)
    (u : Value) (m : Nat) (news : List Value) (hx : a.eval x = u) (hin : Inn w size u m news) (h1 : ∀ u ∈ news, u.oneCell' = true)
    (h63 : n + m ≤ maxLen) (hbytes : (n + m) * bytes ≤ 140737488355328) (hbase : base ≤ w.heap.size)
    (h : ∀ v' w', w'.ownsRow base e size v' (n + m) (xs ++ news) → w.grownBy w' v.ownBlock → ((v'.ownBlock = v.ownBlock ∧ ∀ g, v'.ownBlock = some g → g < w'.heap.size) ∨ ∀ g, v'.ownBlock = some g → w.heap.size ≤ g ∧ g < w'.heap.size) → K (a.put o.dst v') w') :
    Oper.wp P o a w K Q := by
  rcases hin with ⟨rfl, rfl, rfl⟩ | ⟨ad, c, rfl, hl, hc⟩
  · have hrun := run_append_owned_none (P := P) (w := w) base t o.type e i size ht hi v n xs hown
    unfold Oper.wp execOp
    simp only [ho, resolve, invoke, builtin, Sem.run_bind, Sem.run_pure, Result.andThen_ok, List.map_toArray, List.map_cons, List.map_nil, hs, hx, hrun]
    exact h v w (by simpa using hown) ⟨rfl, rfl, rfl, Nat.le_refl _, fun _ _ _ => rfl⟩ (Or.inl ⟨rfl, fun g hg => (hown.lt g hg).2⟩)
  · obtain ⟨v', w', hrun, h2, h3, _, h5⟩ := run_append_own_at (P := P) w base t o.type e i z size bytes ht hi hz hsize hby hzs hsz v n xs hown ad m c news hl (fun j u hu => by
      have hm : 0 < m := by
        rcases Nat.eq_zero_or_pos m with h0 | h0
        · subst h0
          have : news = [] := List.eq_nil_of_length_eq_zero (by omega)
          subst this; simp at hu
        · exact h0
      obtain ⟨b, k, rfl, _, hc⟩ := hc hm
      rw [add_lit']; exact hc j u hu) h1 h63 hbytes hbase
    unfold Oper.wp execOp
    simp only [ho, resolve, invoke, builtin, Sem.run_bind, Sem.run_pure, Result.andThen_ok, List.map_toArray, List.map_cons, List.map_nil, hs, hx, hrun]
    refine h v' w' h2 h3 ?_
    rcases h5 with h5 | h5
    · exact Or.inl ⟨h5, fun g hg => (h2.lt g hg).2⟩
    · refine Or.inr fun g hg => ⟨?_, (h2.lt g hg).2⟩
      rw [h5] at hg
      exact Nat.le_of_eq (Option.some.inj hg)
/-- at an operation's duty -/
theorem step_append {P : Program} {ops : Array Oper} {o : Oper} {a : Act} {w : World} {K : Act → World → Prop} {Q : Exit → Act → World → Prop} {E : Prop} (hgd : o.guard = none) (s x : Operand) (t : TypeId)
    (ho : o.op = .call { callee := .builtin .append, args := #[s, x], argTypes := #[t, t] })
    (base : Nat) (e : TypeId) (i : TypeInfo) (z : Value) (size bytes : Nat) (ht : P.underlying t = some (.slice e)) (hi : P.info? e = some i) (hz : i.zero = some z)
    (hsize : i.size = size) (hby : i.bytes = bytes) (hzs : z.cells.size = size) (hsz : 0 < size)
    (v : Value) (n : Nat) (xs : List Value) (hs : a.eval s = v) (hown : w.ownsRow base e size v n xs)
    (u : Value) (m : Nat) (news : List Value) (hx : a.eval x = u) (hin : Inn w size u m news) (h1 : ∀ u ∈ news, u.oneCell' = true)
    (h63 : n + m ≤ maxLen) (hbytes : (n + m) * bytes ≤ 140737488355328) (hbase : base ≤ w.heap.size)
    (h : ∀ v' w', w'.ownsRow base e size v' (n + m) (xs ++ news) → w.grownBy w' v.ownBlock → ((v'.ownBlock = v.ownBlock ∧ ∀ g, v'.ownBlock = some g → g < w'.heap.size) ∨ ∀ g, v'.ownBlock = some g → w.heap.size ≤ g ∧ g < w'.heap.size) → K (a.put o.dst v') w') :
    if Region.wanted o (yielded ops a.tmps) = true then Oper.wp P o a w K Q else E := by
  have hw : Region.wanted o (yielded ops a.tmps) = true := by simp [Region.wanted, hgd]
  rw [if_pos hw]
  exact oper_append s x t ho base e i z size bytes ht hi hz hsize hby hzs hsz v n xs hs hown u m news hx hin h1 h63 hbytes hbase h
/-- at the list of a plain region -/
theorem wpList_append {P : Program} {ops : Array Oper} {rest : List Oper} {o : Oper} {a : Act} {w : World} {Q : Exit → Act → World → Prop} (hgd : o.guard = none) (s x : Operand) (t : TypeId)
    (ho : o.op = .call { callee := .builtin .append, args := #[s, x], argTypes := #[t, t] })
    (base : Nat) (e : TypeId) (i : TypeInfo) (z : Value) (size bytes : Nat) (ht : P.underlying t = some (.slice e)) (hi : P.info? e = some i) (hz : i.zero = some z)
    (hsize : i.size = size) (hby : i.bytes = bytes) (hzs : z.cells.size = size) (hsz : 0 < size)
    (v : Value) (n : Nat) (xs : List Value) (hs : a.eval s = v) (hown : w.ownsRow base e size v n xs)
    (u : Value) (m : Nat) (news : List Value) (hx : a.eval x = u) (hin : Inn w size u m news) (h1 : ∀ u ∈ news, u.oneCell' = true)
    (h63 : n + m ≤ maxLen) (hbytes : (n + m) * bytes ≤ 140737488355328) (hbase : base ≤ w.heap.size)
    (h : ∀ v' w', w'.ownsRow base e size v' (n + m) (xs ++ news) → w.grownBy w' v.ownBlock → ((v'.ownBlock = v.ownBlock ∧ ∀ g, v'.ownBlock = some g → g < w'.heap.size) ∨ ∀ g, v'.ownBlock = some g → w.heap.size ≤ g ∧ g < w'.heap.size) → wpList P ops Q rest (a.put o.dst v') w') :
    wpList P ops Q (o :: rest) a w :=
  wpList_plain hgd fun _ hK => oper_append s x t ho base e i z size bytes ht hi hz hsize hby hzs hsz v n xs hs hown u m news hx hin h1 h63 hbytes hbase fun v' w' h2 h3 h4 => hK _ _ (h v' w' h2 h3 h4)
end Ow
end Go.Proofs.YtjgfkmakfdepcaaGreatDoor
namespace Go.Proofs.YtjgfkmakfdepcaaGreatDoor

/-- a variable -/
structure VM where
  nm : List UInt8
  kd : Int
  lo : Int
  hi : Int
  ik : Int
  ia : Int
  ib : Int

section
variable (vs : List VM) (ss : List (List UInt8))

end

section
variable {vs : List VM} {ss : List (List UInt8)}

end
end Go.Proofs.YtjgfkmakfdepcaaGreatDoor
namespace Go.Proofs.YtjgfkmakfdepcaaGreatDoor
open Go.RowKit

/-- a variable's seven places in memory; a list's -/
def varV (v : VM) : List Value := [bstr v.nm, .int .i64 v.kd, .int .i64 v.lo, .int .i64 v.hi, .int .i64 v.ik, .int .i64 v.ia, .int .i64 v.ib]
def flatV (vs : List VM) : List Value := vs.flatMap varV
theorem flatV_at {vs : List VM} {i : Nat} (h : i < vs.length) {j : Nat} (hj : j < 7) : (flatV vs)[i * 7 + j]? = (varV vs[i])[j]? := by
  induction vs generalizing i with
  | nil => simp at h
  | cons v r ih =>
    show (varV v ++ flatV r)[i * 7 + j]? = _
    cases i with
    | zero => rw [List.getElem?_append_left (by simp [varV]; omega)]; simp
    | succ k =>
      rw [List.getElem?_append_right (by simp [varV]; omega)]
      have e : (k + 1) * 7 + j - (varV v).length = k * 7 + j := by simp [varV]; omega
      rw [e]
      exact ih (by simpa using h)
/-- a slice that reads as a list of variables, of names -/
def RdV (w : World) (v : Value) (vs : List VM) : Prop := Inn w 7 v vs.length (flatV vs)
def RdW (w : World) (v : Value) (xs : List (List UInt8)) : Prop := Inn w 1 v xs.length (xs.map bstr)
theorem RdV.below {w w' : World} {v : Value} {vs : List VM} (h : RdV w v vs) (hb : Below w.heap.size w w') : RdV w' v vs := Inn.below h hb
theorem RdW.below {w w' : World} {v : Value} {xs : List (List UInt8)} (h : RdW w v xs) (hb : Below w.heap.size w w') : RdW w' v xs := Inn.below h hb
theorem RdV.at_ {w : World} {A : Option Addr} {m c : Nat} {vs : List VM} (h : RdV w (.slice A m c) vs) {k : Nat} (hk : k < vs.length) :
    ∃ b o, A = some ⟨b, o, none⟩ ∧ b < w.heap.size ∧ w.cell? ⟨b, o + k * 7, none⟩ = some (bstr vs[k].nm) ∧ w.cell? ⟨b, o + k * 7 + 1, none⟩ = some (.int .i64 vs[k].kd) ∧ w.cell? ⟨b, o + k * 7 + 2, none⟩ = some (.int .i64 vs[k].lo) ∧
      w.cell? ⟨b, o + k * 7 + 3, none⟩ = some (.int .i64 vs[k].hi) ∧ w.cell? ⟨b, o + k * 7 + 4, none⟩ = some (.int .i64 vs[k].ik) ∧ w.cell? ⟨b, o + k * 7 + 5, none⟩ = some (.int .i64 vs[k].ia) ∧ w.cell? ⟨b, o + k * 7 + 6, none⟩ = some (.int .i64 vs[k].ib) := by
  obtain ⟨b, o, hA, hlt, hc⟩ := Inn.at_ h hk
  exact ⟨b, o, hA, hlt, hc 0 _ ((flatV_at hk (by omega)).trans rfl), hc 1 _ ((flatV_at hk (by omega)).trans rfl), hc 2 _ ((flatV_at hk (by omega)).trans rfl), hc 3 _ ((flatV_at hk (by omega)).trans rfl), hc 4 _ ((flatV_at hk (by omega)).trans rfl), hc 5 _ ((flatV_at hk (by omega)).trans rfl), hc 6 _ ((flatV_at hk (by omega)).trans rfl)⟩
theorem RdW.at_ {w : World} {A : Option Addr} {m c : Nat} {xs : List (List UInt8)} (h : RdW w (.slice A m c) xs) {k : Nat} (hk : k < xs.length) :
    ∃ b o, A = some ⟨b, o, none⟩ ∧ b < w.heap.size ∧ w.cell? ⟨b, o + k, none⟩ = some (bstr xs[k]) := by
  obtain ⟨b, o, hA, hlt, hc⟩ := Inn.at_ h hk
  have := hc 0 (bstr xs[k]) (by simp [hk])
  exact ⟨b, o, hA, hlt, by simpa using this⟩
theorem RdV.form {w : World} {v : Value} {vs : List VM} (h : RdV w v vs) : ∃ A c, v = .slice A vs.length c := Inn.form h
theorem RdW.form {w : World} {v : Value} {xs : List (List UInt8)} (h : RdW w v xs) : ∃ A c, v = .slice A xs.length c := Inn.form h
end Go.Proofs.YtjgfkmakfdepcaaGreatDoor
namespace Go.Proofs.YtjgfkmakfdepcaaGreatDoor
open Go.RowKit Go.ChangeShapes Go.WideShapes Go.ChangeAt

theorem cellsI : Tryz.prog.cellsOf 3 = 1 := by kernel_rfl
theorem cellsS : Tryz.prog.cellsOf 9 = 1 := by kernel_rfl
section
variable {H : Type} {enc : TypeId × Value → H} {W : World} {base : Nat} {sp : Nat → Bool} {held : Bool} {fuel : Nat} {cs : List Value}

end

section
variable {H : Type} {enc : TypeId × Value → H} {W : World} {n : Nat} {v : Value} {y : DataW H × List MemPlace}
end

end Go.Proofs.YtjgfkmakfdepcaaGreatDoor
namespace Go.Proofs.YtjgfkmakfdepcaaGreatDoor
open Go.RowKit

/-- the place of the first that p holds of; -1: of none -/
def ixP {α : Type} (p : α → Bool) : List α → Nat → Int
  | [], _ => -1
  | x :: r, i => if p x = true then i else ixP p r (i + 1)
theorem ix_step {α : Type} {p : α → Bool} {l : List α} {k : Nat} (hk : k < l.length) : ixP p (l.drop k) k = if p l[k] = true then (k : Int) else ixP p (l.drop (k + 1)) (k + 1) := by
  rw [List.drop_eq_getElem_cons hk]; rfl
theorem ix_end {α : Type} {p : α → Bool} {l : List α} {k : Nat} (hk : ¬ k < l.length) : ixP p (l.drop k) k = -1 := by
  rw [List.drop_of_length_le (by omega)]; rfl
theorem ix_find {α : Type} (p : α → Bool) : ∀ (l : List α) (i : Nat), (ixP p l i = -1 ∧ l.find? p = none) ∨ ∃ j, ∃ h : j < l.length, ixP p l i = ((i + j : Nat) : Int) ∧ l.find? p = some l[j]
  | [], i => Or.inl ⟨rfl, rfl⟩
  | x :: r, i => by
    by_cases hx : p x = true
    · refine Or.inr ⟨0, by simp, ?_, ?_⟩
      · unfold ixP; rw [if_pos hx]; rfl
      · simp [hx]
    · have e1 : ixP p (x :: r) i = ixP p r (i + 1) := if_neg hx
      have e2 : (x :: r).find? p = r.find? p := by simp [hx]
      rw [e1, e2]
      rcases ix_find p r (i + 1) with h | ⟨j, hj, h1, h2⟩
      · exact Or.inl h
      · exact Or.inr ⟨j + 1, by simp; omega, by rw [h1]; congr 1; omega, by rw [h2]; rfl⟩
def isN (n : List UInt8) (x : List UInt8) : Bool := decide (x = n)
theorem ix_mem (l : List (List UInt8)) (n : List UInt8) : decide (0 ≤ ixP (isN n) l 0) = decide (n ∈ l) := by
  rcases ix_find (isN n) l 0 with ⟨h1, h2⟩ | ⟨j, hj, h1, h2⟩
  · rw [h1]
    have : n ∉ l := by
      intro hm
      have := List.find?_eq_none.1 h2 n hm
      simp [isN] at this
    simp [this]
  · rw [h1]
    have := List.find?_some h2
    simp [isN] at this
    have hm : n ∈ l := by rw [← this]; exact List.getElem_mem _
    simp [hm]
theorem ix_range {α : Type} (p : α → Bool) (l : List α) : ixP p l 0 = -1 ∨ (0 ≤ ixP p l 0 ∧ ixP p l 0 < l.length) := by
  rcases ix_find p l 0 with ⟨h1, h2⟩ | ⟨j, hj, h1, h2⟩
  · exact Or.inl h1
  · right; rw [h1]; omega

/-- a string's bytes, as the walk compares them -/
theorem str_ne {X Y : ByteArray} (h : X.data.toList ≠ Y.data.toList) : (X.toList == Y.toList) = false := by
  rw [Lib.toList_data, Lib.toList_data]; exact beq_eq_false_iff_ne.2 h
theorem str_eq {X Y : ByteArray} (h : X.data.toList = Y.data.toList) : X = Y := by apply ByteArray.ext; exact Array.toList_inj.1 h
theorem bstr_some (l : List UInt8) : ∃ X : ByteArray, bstr l = .string X ∧ X.data.toList = l := ⟨⟨l.toArray⟩, rfl, rfl⟩

set_option maxHeartbeats 1000000 in
theorem strIndex_any (v : Value) (xs : List (List UInt8)) (N : ByteArray) (w : World) (hR : RdW w v xs) (hl : xs.length ≤ 9223372036854775807) :
    Calls Tryz.prog 167 #[v, .string N] w fun e w' => e = .returned (.int .i64 (ixP (isN N.data.toList) xs 0)) ∧ w = w' := by
  obtain ⟨A, c, rfl⟩ := hR.form
  have HR := Lib.hid hR; clear hR
  obtain ⟨n, hn⟩ : ∃ n, xs.length = n := ⟨_, rfl⟩
  have HN := Lib.hid hn
  rw [hn] at hl HR ⊢
  clear hn
  go_enter Tryz.func167, Tryz.ntmps167
  go_wp2
  go_loop [4, 5, 8] (fun x4 x5 i => x4 = .int .i64 0 ∧ (x5 = .int .i64 0 ∨ True) ∧ ∃ k : Nat, k ≤ n ∧ i = .int .i64 k ∧ Hid (ixP (isN N.data.toList) (xs.drop k) k = ixP (isN N.data.toList) xs 0)) (fun _ _ i => n - (intOf i).toNat)
  case atStart => exact ⟨rfl, Or.inr trivial, 0, by omega, rfl, rfl⟩
  case round =>
    obtain ⟨rfl, _, k, hk, rfl, HI⟩ := hrel
    by_cases hkn : k < n
    · obtain ⟨b, o, rfl, _, hc⟩ := HR.out.at_ (k := k) (by rw [HN.out]; exact hkn)
      have hst := ix_step (p := isN N.data.toList) (l := xs) (k := k) (by rw [HN.out]; exact hkn)
      rw [HI.out] at hst
      obtain ⟨X, hX, hXl⟩ := bstr_some (xs[k]'(by rw [HN.out]; exact hkn))
      rw [hX] at hc
      rw [← hXl] at hst
      clear hX hXl
      by_cases he : X.data.toList = N.data.toList
      · obtain rfl := str_eq he
        have hr : ixP (isN X.data.toList) xs 0 = k := by rw [hst, if_pos (by simp [isN])]
        have HRR := Lib.hid hr
        clear hst hr he HI
        go_wp2
        go_ret
        exact ⟨ret_int HRR.out.symm, rfl⟩
      · have hr : ixP (isN N.data.toList) (xs.drop (k + 1)) (k + 1) = ixP (isN N.data.toList) xs 0 := by rw [hst, if_neg (by simp [isN, he])]
        have HRR := Lib.hid hr
        have hne := str_ne he
        have hne' := str_ne (Ne.symm he)
        clear hst hr he HI
        go_wp2
        go_round
        case rel => exact ⟨rfl, Or.inr trivial, k + 1, by omega, by go_num, HRR.out⟩
        case measure => simp [intOf]; omega
    · have hr : ixP (isN N.data.toList) xs 0 = -1 := by rw [← HI.out, ix_end (by rw [HN.out]; exact hkn)]
      have HRR := Lib.hid hr
      clear hr HI
      go_wp2
      go_ret
      exact ⟨ret_int HRR.out.symm, rfl⟩

theorem strContains_any (v : Value) (xs : List (List UInt8)) (N : ByteArray) (w : World) (hR : RdW w v xs) (hl : xs.length ≤ 9223372036854775807) :
    Calls Tryz.prog 144 #[v, .string N] w fun e w' => e = .returned (.bool (decide (N.data.toList ∈ xs))) ∧ w = w' := by
  have HI := Lib.hid (strIndex_any v xs N w hR hl)
  have HM := Lib.hid (ix_mem xs N.data.toList)
  clear hR
  go_enter Tryz.func144, Tryz.ntmps144
  go_wp2_with fail
  refine HI.out.mono ?_
  rintro e w1 ⟨rfl, rfl⟩
  go_wp2
  go_ret
  exact ⟨ret_bool HM.out, rfl⟩

end Go.Proofs.YtjgfkmakfdepcaaGreatDoor
namespace Go.Proofs.YtjgfkmakfdepcaaGreatDoor

/-- a value -/
structure VA where
  kd : Int
  a : Int
  b : Int

def inB (n : Int) : Bool := decide (-1048576 ≤ n ∧ n ≤ 1048576)
theorem inB_iff {n : Int} : inB n = true ↔ -1048576 ≤ n ∧ n ≤ 1048576 := decide_eq_true_iff
def inL (n : Int) : Bool := decide (-9223372036854775808 ≤ n ∧ n ≤ 9223372036854775807)
theorem inL_iff {n : Int} : inL n = true ↔ -9223372036854775808 ≤ n ∧ n ≤ 9223372036854775807 := decide_eq_true_iff

def rightV (v : VA) : Bool :=
  if v.kd = 1 then decide (v.b = 0) else if v.kd = 2 then decide (v.b = 0) && (decide (v.a = 0) || decide (v.a = 1)) else if v.kd = 3 then inB v.a && inB v.b else false

/-- a value and the error -/
def VA.zero : VA := ⟨0, 0, 0⟩
def erV (e : Int) : VA × Int := (VA.zero, e)
def numV (n : Int) : VA := ⟨1, n, 0⟩
def numE (n : Int) : VA × Int := if inL n = true then (numV n, 0) else erV 7
def truV (b : Bool) : VA := ⟨2, if b = true then 1 else 0, 0⟩
def ptV (a b : Int) : VA := ⟨3, a, b⟩
def ptE (a b : Int) : VA × Int := if (inB a && inB b) = true then (ptV a b, 0) else erV 5

def isV (n : List UInt8) (v : VM) : Bool := decide (v.nm = n)
def varE (vs : List VM) (xs : List VA) (n : List UInt8) : VA × Int :=
  if ixP (isV n) vs 0 < 0 then erV 2 else (xs.getD (ixP (isV n) vs 0).toNat VA.zero, 0)

def leafE (vs : List VM) (xs : List VA) (ss : List (List UInt8)) (c : CM) : VA × Int :=
  if c.op = 1 then (numV c.a, 0) else if c.op = 2 then (ptV 0 c.a, 0) else if c.op = 5 then varE vs xs c.nm else if c.op = 6 then (truV (decide (c.nm ∈ ss)), 0) else (truV (decide (c.op = 3)), 0)

def unE (o : Int) (v : VA) : VA × Int :=
  if o = 7 then (if v.kd = 1 then numE (-v.a) else if v.kd = 3 then (ptV (-v.a) (-v.b), 0) else erV 8)
  else if o = 8 then (if v.kd = 2 then (truV (decide (v.a = 0)), 0) else erV 8)
  else if o = 9 then (if v.kd = 3 then (numV v.a, 0) else erV 8)
  else (if v.kd = 3 then (numV v.b, 0) else erV 8)

def numbersE (o a b : Int) : VA × Int :=
  if o = 11 then numE (a + b) else if o = 12 then numE (a - b) else if o = 13 then numE (a * b)
  else if o = 14 then (if b = 0 then erV 6 else numE (a.tdiv b))
  else if o = 15 then (if b = 0 then erV 6 else (numV (a.tmod b), 0))
  else if o = 18 then (truV (decide (a < b)), 0) else if o = 19 then (truV (decide (a ≤ b)), 0)
  else if o = 20 then (truV (decide (b < a)), 0) else if o = 21 then (truV (decide (b ≤ a)), 0) else erV 8
def truthsE (o : Int) (a b : Bool) : VA × Int := if o = 22 then (truV (a && b), 0) else if o = 23 then (truV (a || b), 0) else erV 8
def pointsE (o a b c d : Int) : VA × Int :=
  if o = 11 then ptE (a + c) (b + d) else if o = 12 then ptE (a - c) (b - d) else if o = 13 then ptE (a * c - b * d) (a * d + b * c) else erV 8

def joinE (o : Int) (x y : VA) : VA × Int :=
  if x.kd ≠ y.kd then erV 8
  else if o = 16 then (truV (decide (x.a = y.a ∧ x.b = y.b)), 0)
  else if o = 17 then (truV (!decide (x.a = y.a ∧ x.b = y.b)), 0)
  else if x.kd = 1 then numbersE o x.a y.a
  else if x.kd = 2 then truthsE o (decide (x.a = 1)) (decide (y.a = 1))
  else pointsE o x.a x.b y.a y.b

/-- right, and of 64 bits -/
def OkV (v : VA) : Prop := rightV v = true ∧ inL v.a = true

theorem ok_num {n : Int} (h : inL n = true) : OkV (numV n) := ⟨rfl, h⟩
theorem ok_tru (b : Bool) : OkV (truV b) := by cases b <;> exact ⟨rfl, rfl⟩
theorem ok_pt {a b : Int} (h : (inB a && inB b) = true) : OkV (ptV a b) := by
  refine ⟨h, ?_⟩
  simp only [Bool.and_eq_true, inB_iff] at h
  exact inL_iff.2 (by show -9223372036854775808 ≤ a ∧ a ≤ 9223372036854775807; omega)
/-- how a value and an error stand to each other -/
def Fin (p : VA × Int) : Prop := (p.2 = 0 ∧ OkV p.1) ∨ (p.2 ≠ 0 ∧ p.1 = VA.zero)
theorem fin_er {e : Int} (h : e ≠ 0) : Fin (erV e) := Or.inr ⟨h, rfl⟩
theorem fin_ok {v : VA} (h : OkV v) : Fin (v, 0) := Or.inl ⟨rfl, h⟩
theorem fin_num (n : Int) : Fin (numE n) := by
  unfold numE
  split
  · exact fin_ok (ok_num (by assumption))
  · exact fin_er (by decide)
theorem fin_pt (a b : Int) : Fin (ptE a b) := by
  unfold ptE
  split
  · exact fin_ok (ok_pt (by assumption))
  · exact fin_er (by decide)
theorem tmod_in {a b : Int} (h : inL a = true) : inL (a.tmod b) = true := by
  rw [inL_iff] at *
  have h1 := Int.natAbs_tmod a b
  by_cases hb : b = 0
  · subst hb; rw [Int.tmod_zero]; exact h
  · have h2 : a.natAbs % b.natAbs ≤ a.natAbs := Nat.mod_le _ _
    rcases Int.lt_or_le a 0 with hn | hn
    · have h3 : a.tmod b ≤ 0 := by
        have := Int.tmod_nonneg (-b) (a := -a) (by omega)
        rw [Int.neg_tmod, Int.tmod_neg] at this; omega
      omega
    · have := Int.tmod_nonneg b (a := a) hn
      omega

section
variable {vs : List VM} {xs : List VA} {ss : List (List UInt8)}
theorem fin_var (hx : ∀ v ∈ xs, OkV v) (hl : vs.length = xs.length) (n : List UInt8) : Fin (varE vs xs n) := by
  unfold varE
  rcases ix_find (isV n) vs 0 with ⟨h, _⟩ | ⟨j, hj, h, _⟩
  · rw [h, if_pos (by decide)]; exact fin_er (by decide)
  · rw [h, if_neg (by omega)]
    have e : ((0 + j : Nat) : Int).toNat = j := by omega
    rw [e]
    have : j < xs.length := by omega
    rw [List.getD_eq_getElem?_getD, List.getElem?_eq_getElem this]
    exact fin_ok (hx _ (List.getElem_mem _))
theorem fin_leaf (hx : ∀ v ∈ xs, OkV v) (hl : vs.length = xs.length) {c : CM} (hc : formedB c = true) : Fin (leafE vs xs ss c) := by
  unfold leafE
  unfold formedB at hc
  by_cases h1 : c.op = 1
  · rw [if_pos h1] at hc ⊢
    simp at hc
    exact fin_ok (ok_num (inL_iff.2 (by omega)))
  · rw [if_neg h1] at hc ⊢
    by_cases h2 : c.op = 2
    · rw [if_pos h2] at hc ⊢
      simp at hc
      exact fin_ok (ok_pt (by simp only [Bool.and_eq_true, inB_iff]; omega))
    · rw [if_neg h2]
      split
      · exact fin_var hx hl _
      · split
        · exact fin_ok (ok_tru _)
        · exact fin_ok (ok_tru _)
theorem fin_un {o : Int} {v : VA} (hv : OkV v) : Fin (unE o v) := by
  obtain ⟨h1, h2⟩ := hv
  unfold unE
  have h3 : v.kd = 3 → inB v.a = true ∧ inB v.b = true := fun h => by
    unfold rightV at h1
    rw [h] at h1
    simpa using h1
  repeat' split
  all_goals first
    | exact fin_num _
    | exact fin_er (by decide)
    | exact fin_ok (ok_tru _)
    | skip
  · obtain ⟨h4, h5⟩ := h3 (by assumption)
    refine fin_ok (ok_pt ?_)
    simp only [Bool.and_eq_true, inB_iff] at *
    omega
  · exact fin_ok (ok_num h2)
  · obtain ⟨h4, h5⟩ := h3 (by assumption)
    refine fin_ok (ok_num ?_)
    rw [inB_iff] at h5
    exact inL_iff.2 (by omega)
theorem fin_ite {c : Prop} [Decidable c] {a b : VA × Int} (h1 : Fin a) (h2 : Fin b) : Fin (if c then a else b) := by
  by_cases h : c
  · rw [if_pos h]; exact h1
  · rw [if_neg h]; exact h2
theorem fin_join {o : Int} {x y : VA} (hx : OkV x) : Fin (joinE o x y) := by
  unfold joinE numbersE truthsE pointsE
  repeat' first | exact fin_num _ | exact fin_pt _ _ | refine fin_ite ?_ ?_
  all_goals first
    | exact fin_num _
    | exact fin_pt _ _
    | exact fin_er (by decide)
    | exact fin_ok (ok_tru _)
    | exact fin_ok (ok_num (tmod_in hx.2))
end

section
variable (vs : List VM) (xs : List VA) (ss : List (List UInt8))

def eT : T → VA × Int
  | .leaf c => leafE vs xs ss c
  | .un o t => if (eT t).2 ≠ 0 then erV (eT t).2 else unE o (eT t).1
  | .bin o l r => if (eT l).2 ≠ 0 then erV (eT l).2 else if (eT r).2 ≠ 0 then erV (eT r).2 else joinE o (eT l).1 (eT r).1

/-- what a cell makes of its operands -/
def madeE (c : CM) (st : List VA) : VA × Int :=
  match operN c.op with
  | 0 => leafE vs xs ss c
  | 1 => unE c.op (st.headD VA.zero)
  | _ => joinE c.op (st.headD VA.zero) ((st.drop 1).headD VA.zero)

def eRun : List CM → List VA → VA × Int
  | [], st => (st.headD VA.zero, 0)
  | c :: r, st => if (madeE vs xs ss c (st.drop (st.length - operN c.op))).2 ≠ 0 then erV (madeE vs xs ss c (st.drop (st.length - operN c.op))).2
    else eRun r (st.take (st.length - operN c.op) ++ [(madeE vs xs ss c (st.drop (st.length - operN c.op))).1])

def worldB : Bool := decide (xs.length = vs.length) && xs.all rightV
def evP (cs : List CM) : VA × Int := if rightB cs = true then (if worldB vs xs = true then eRun vs xs ss cs [] else erV 12) else erV 1
end

section
variable {vs : List VM} {xs : List VA} {ss : List (List UInt8)}

theorem fin_eT (hx : ∀ v ∈ xs, OkV v) (hl : vs.length = xs.length) {t : T} (h : OkT t) : Fin (eT vs xs ss t) := by
  induction t with
  | leaf c => exact fin_leaf hx hl h.1
  | un o t ih =>
    unfold eT
    rcases ih h.2.2 with ⟨h1, h2⟩ | ⟨h1, h2⟩
    · rw [if_neg (by simp [h1])]; exact fin_un h2
    · rw [if_pos h1]; exact fin_er h1
  | bin o l r ihl ihr =>
    unfold eT
    rcases ihl h.2.2.1 with ⟨h1, h2⟩ | ⟨h1, h2⟩
    · rw [if_neg (by simp [h1])]
      rcases ihr h.2.2.2 with ⟨h3, h4⟩ | ⟨h3, h4⟩
      · rw [if_neg (by simp [h3])]; exact fin_join h2
      · rw [if_pos h3]; exact fin_er h3
    · rw [if_pos h1]; exact fin_er h1

theorem run_eT {t : T} (h : OkT t) : ∀ (r : List CM) (st : List VA), eRun vs xs ss (post t ++ r) st = if (eT vs xs ss t).2 ≠ 0 then erV (eT vs xs ss t).2 else eRun vs xs ss r (st ++ [(eT vs xs ss t).1]) := by
  induction t with
  | leaf c =>
    intro r st
    show eRun vs xs ss (c :: r) st = _
    have h0 : operN c.op = 0 := h.2
    have hm : madeE vs xs ss c (st.drop (st.length - operN c.op)) = leafE vs xs ss c := by unfold madeE; rw [h0]; rfl
    rw [eRun, hm, h0, Nat.sub_zero, List.take_length]
    rfl
  | un o t ih =>
    intro r st
    show eRun vs xs ss (post t ++ [opC o] ++ r) st = _
    rw [List.append_assoc, ih h.2.2]
    by_cases h1 : (eT vs xs ss t).2 = 0
    · have h1' : ¬ (eT vs xs ss t).2 ≠ 0 := fun e => e h1
      have e : eT vs xs ss (.un o t) = unE o (eT vs xs ss t).1 := if_neg h1'
      rw [if_neg h1', e]
      show eRun vs xs ss (opC o :: r) _ = _
      have hn : operN (opC o).op = 1 := operN_un ⟨h.1, h.2.1⟩
      have hl : (st ++ [(eT vs xs ss t).1]).length - 1 = st.length := by simp
      have hm : madeE vs xs ss (opC o) [(eT vs xs ss t).1] = unE o (eT vs xs ss t).1 := by
        unfold madeE; rw [hn]; rfl
      rw [eRun, hn, hl, List.drop_left, List.take_left, hm]
    · have e : eT vs xs ss (.un o t) = erV (eT vs xs ss t).2 := if_pos h1
      rw [if_pos h1, e]
      rw [if_pos (show (erV (eT vs xs ss t).2).2 ≠ 0 from h1)]
      rfl
  | bin o l r' ihl ihr =>
    intro r st
    show eRun vs xs ss (post l ++ post r' ++ [opC o] ++ r) st = _
    rw [List.append_assoc, List.append_assoc, ihl h.2.2.1]
    by_cases h1 : (eT vs xs ss l).2 = 0
    · have h1' : ¬ (eT vs xs ss l).2 ≠ 0 := fun e => e h1
      rw [if_neg h1', ihr h.2.2.2]
      by_cases h2 : (eT vs xs ss r').2 = 0
      · have h2' : ¬ (eT vs xs ss r').2 ≠ 0 := fun e => e h2
        have e : eT vs xs ss (.bin o l r') = joinE o (eT vs xs ss l).1 (eT vs xs ss r').1 := (if_neg h1').trans (if_neg h2')
        rw [if_neg h2', e]
        show eRun vs xs ss (opC o :: r) _ = _
        have hn : operN (opC o).op = 2 := operN_bin ⟨h.1, h.2.1⟩
        have hl : (st ++ [(eT vs xs ss l).1] ++ [(eT vs xs ss r').1]).length - 2 = st.length := by simp
        have hd : (st ++ [(eT vs xs ss l).1] ++ [(eT vs xs ss r').1]).drop st.length = [(eT vs xs ss l).1, (eT vs xs ss r').1] := by
          rw [List.append_assoc, List.drop_left]; rfl
        have ht : (st ++ [(eT vs xs ss l).1] ++ [(eT vs xs ss r').1]).take st.length = st := by
          rw [List.append_assoc, List.take_left]
        have hm : madeE vs xs ss (opC o) [(eT vs xs ss l).1, (eT vs xs ss r').1] = joinE o (eT vs xs ss l).1 (eT vs xs ss r').1 := by
          unfold madeE; rw [hn]; rfl
        rw [eRun, hn, hl, hd, hm, ht]
      · have e : eT vs xs ss (.bin o l r') = erV (eT vs xs ss r').2 := (if_neg h1').trans (if_pos h2)
        rw [if_pos h2, e, if_pos (show (erV (eT vs xs ss r').2).2 ≠ 0 from h2)]
        rfl
    · have e : eT vs xs ss (.bin o l r') = erV (eT vs xs ss l).2 := if_pos h1
      rw [if_pos h1, e, if_pos (show (erV (eT vs xs ss l).2).2 ≠ 0 from h1)]
      rfl

theorem fin_eq {p : VA × Int} (h : Fin p) : (if p.2 ≠ 0 then erV p.2 else (p.1, 0)) = p := by
  rcases h with ⟨h1, _⟩ | ⟨h1, h2⟩
  · rw [if_neg (by simp [h1]), ← h1]
  · rw [if_pos h1, erV, ← h2]
theorem ev_tree (hx : ∀ v ∈ xs, OkV v) (hl : vs.length = xs.length) {t : T} (h : OkT t) : eRun vs xs ss (post t) [] = eT vs xs ss t := by
  have := run_eT (vs := vs) (xs := xs) (ss := ss) h [] []
  rw [List.append_nil] at this
  rw [this]
  exact fin_eq (fin_eT hx hl h)
end
end Go.Proofs.YtjgfkmakfdepcaaGreatDoor
namespace Go.Proofs.YtjgfkmakfdepcaaGreatDoor
open Ieee

theorem log2_bd (m : Nat) (h0 : m ≠ 0) (h : m < 2 ^ 53) : m.log2 ≤ 52 := by
  have := Nat.log2_lt h0 |>.2 h; omega

theorem cut_zero (s : Bool) (n : Nat) : Toward.even.cut s n 0 = n := by
  simp [Toward.cut, Nat.mod_one]

/-- what a word of a whole number stands for -/
theorem read_word (s : Bool) (L K : Nat) (hl : L ≤ 52) (h1 : 4503599627370496 ≤ K) (h2 : K < 9007199254740992) :
    double.read (double.word s ((L + 1022) * 4503599627370496 + K)) = .number s K ((L : Int) - 52) := by
  have hlp : double.leastPlace = -1074 := by kernel_rfl
  have hbi : double.binade = 4503599627370496 := by kernel_rfl
  have hsw : double.signWeight = 9223372036854775808 := by kernel_rfl
  have hir : double.infRung = 9218868437227405312 := by kernel_rfl
  obtain ⟨R, hR⟩ : ∃ R, R = (L + 1022) * 4503599627370496 + K := ⟨_, rfl⟩
  rw [← hR]
  have e6 : double.word s R % double.signWeight = R := by
    unfold Format.word; rw [hsw]; split <;> omega
  have e7 : (double.word s R / double.signWeight % 2 == 1) = s := by
    unfold Format.word; rw [hsw]
    cases s
    · rw [if_neg (by decide)]; exact beq_eq_false_iff_ne.2 (by omega)
    · rw [if_pos rfl]; exact beq_iff_eq.2 (by omega)
  unfold Format.read
  simp only [e6, e7]
  rw [if_neg (by rw [hbi]; omega), if_pos (by rw [hir]; omega), hbi, hlp]
  have e8 : 4503599627370496 + R % 4503599627370496 = K := by omega
  have e9 : R / 4503599627370496 - 1 = L + 1022 := by omega
  rw [e8, e9, show (-1074 : Int) + ((L + 1022 : Nat) : Int) = (L : Int) - 52 by omega]

theorem nearest_int (s : Bool) (m : Nat) (h0 : m ≠ 0) (h : m < 2 ^ 53) :
    double.nearest s m 0 = double.word s ((m.log2 + 1022) * 4503599627370496 + m <<< (52 - m.log2)) ∧ m.log2 ≤ 52 ∧ 4503599627370496 ≤ m <<< (52 - m.log2) ∧ m <<< (52 - m.log2) < 9007199254740992 := by
  have hl := log2_bd m h0 h
  have hlo : 2 ^ m.log2 ≤ m := Nat.log2_self_le h0
  have hhi : m < 2 ^ (m.log2 + 1) := Nat.lt_log2_self
  have hlp : double.leastPlace = -1074 := by kernel_rfl
  have hbi : double.binade = 4503599627370496 := by kernel_rfl
  have hir : double.infRung = 9218868437227405312 := by kernel_rfl
  have hfb : double.fractionBits = 52 := rfl
  unfold Format.nearest
  rw [if_neg h0]
  simp only [hlp, hfb, hbi, hir]
  generalize m.log2 = L at *
  have e1 : max ((0 : Int) + (L : Int) - ((52 : Nat) : Int)) (-1074) = (L : Int) - 52 := by omega
  have e2 : ((0 : Int) - ((L : Int) - 52)).toNat = 52 - L := by omega
  have e3 : ((L : Int) - 52 - 0).toNat = 0 := by omega
  have e4 : ((L : Int) - 52 - -1074).toNat = L + 1022 := by omega
  rw [e1, e2, e3, e4, cut_zero]
  have hk1 : 4503599627370496 ≤ m <<< (52 - L) := by
    rw [Nat.shiftLeft_eq]
    have hh : (4503599627370496 : Nat) = 2 ^ L * 2 ^ (52 - L) := by
      rw [← Nat.pow_add, show L + (52 - L) = 52 by omega]
    rw [hh]
    exact Nat.mul_le_mul_right _ hlo
  have hk2 : m <<< (52 - L) < 9007199254740992 := by
    rw [Nat.shiftLeft_eq]
    have hh : (9007199254740992 : Nat) = 2 ^ (L + 1) * 2 ^ (52 - L) := by
      rw [← Nat.pow_add, show L + 1 + (52 - L) = 53 by omega]
    rw [hh]
    exact Nat.mul_lt_mul_of_pos_right hhi (Nat.two_pow_pos _)
  refine ⟨?_, hl, hk1, hk2⟩
  rw [Nat.min_eq_left (by omega)]

theorem read_int (s : Bool) (m : Nat) (h0 : m ≠ 0) (h : m < 2 ^ 53) :
    double.read (double.nearest s m 0) = .number s (m <<< (52 - m.log2)) ((m.log2 : Int) - 52) := by
  obtain ⟨e, hl, h1, h2⟩ := nearest_int s m h0 h
  rw [e, read_word s _ _ hl h1 h2]

theorem read_zero : double.read (double.nearest false 0 0) = .number false 0 (-1074) := by kernel_rfl

/-- The word x stands for the whole number a (a zero may have either sign). -/
def Rep (x : Nat) (a : Int) : Prop := ∃ s m p, double.read x = .number s m p ∧ p ≤ 0 ∧ signed s m 0 = a * 2 ^ (-p).toNat

theorem signed_scale (s : Bool) (m k : Nat) : signed s m k = signed s m 0 * 2 ^ k := by
  cases s <;> simp [signed, Nat.shiftLeft_eq]
  rw [Int.neg_mul]

theorem rep_int (a : Int) (h : a.natAbs < 2 ^ 53) : Rep (floatOfInt .f64 a) a := by
  unfold floatOfInt FloatKind.nearest FloatKind.encode
  show Rep (double.nearest (decide (a < 0)) a.natAbs 0) a
  by_cases h0 : a.natAbs = 0
  · have : a = 0 := by omega
    subst this
    exact ⟨false, 0, -1074, read_zero, by omega, by simp only [signed, Int.zero_mul]; rfl⟩
  · have hl := log2_bd _ h0 h
    refine ⟨_, _, _, read_int _ _ h0 h, by omega, ?_⟩
    have e : (-(((a.natAbs).log2 : Int) - 52)).toNat = 52 - a.natAbs.log2 := by omega
    rw [e]
    generalize 52 - a.natAbs.log2 = k
    simp only [signed, Nat.shiftLeft_eq, Nat.pow_zero, Nat.mul_one]
    by_cases hn : a < 0
    · simp only [hn, decide_true, if_true]
      rw [Int.natCast_mul, ← Int.neg_mul]
      rw [show -((a.natAbs : Nat) : Int) = a by omega, Int.natCast_pow]
      rfl
    · simp only [hn, decide_false]
      rw [if_neg (by decide), Int.natCast_mul, show ((a.natAbs : Nat) : Int) = a by omega, Int.natCast_pow]
      rfl

theorem compare_scale (a b : Int) (k : Nat) : compare (a * 2 ^ k) (b * 2 ^ k) = compare a b := by
  have hp : (0 : Int) < 2 ^ k := Int.pow_pos (by decide)
  simp only [compare, compareOfLessAndEq]
  have h1 : (a * 2 ^ k < b * 2 ^ k) ↔ a < b := ⟨fun h => Int.lt_of_mul_lt_mul_right h (Int.le_of_lt hp), fun h => Int.mul_lt_mul_of_pos_right h hp⟩
  have h2 : (a * 2 ^ k = b * 2 ^ k) ↔ a = b := ⟨fun h => Int.eq_of_mul_eq_mul_right (by omega) h, fun h => by rw [h]⟩
  simp only [h1, h2]

/-- two words that stand for whole numbers compare as these do -/
theorem rep_order {x y : Nat} {a b : Int} (hx : Rep x a) (hy : Rep y b) : double.order x y = some (compare a b) := by
  obtain ⟨s, m, p, rx, hp2, hv⟩ := hx
  obtain ⟨t, n, q, ry, hq2, hw⟩ := hy
  simp only [Format.order, rx, ry, Datum.order]
  rw [signed_scale, signed_scale (s := t), hv, hw, Int.mul_assoc, Int.mul_assoc, ← Int.pow_add, ← Int.pow_add]
  have e : (-q).toNat + (q - min p q).toNat = (-p).toNat + (p - min p q).toNat := by omega
  rw [e, compare_scale]

/-- .. and are told as these are -/
theorem rep_toInt {x : Nat} {a : Int} (hx : Rep x a) : (double.read x).toInt .zero = some a := by
  obtain ⟨s, m, p, rx, hp2, hv⟩ := hx
  rw [rx]
  have e1 : p.toNat = 0 := by omega
  have hm : m = a.natAbs * 2 ^ (-p).toNat := by
    have := congrArg Int.natAbs hv
    rw [Int.natAbs_mul, Int.natAbs_pow] at this
    cases s <;> simpa [signed] using this
  have hcut : Toward.zero.cut s (m <<< 0) (-p).toNat = a.natAbs := by
    rw [Nat.shiftLeft_zero]
    by_cases h0 : a.natAbs = 0
    · simp [Toward.cut, hm, h0]
    · have hlog : (-p).toNat ≤ m.log2 := by
        rw [Nat.le_log2 (by rw [hm]; exact Nat.mul_ne_zero h0 (Nat.pos_iff_ne_zero.1 (Nat.two_pow_pos _)))]
        rw [hm]
        exact Nat.le_mul_of_pos_left _ (Nat.pos_of_ne_zero h0)
      simp only [Toward.cut]
      rw [Nat.min_eq_left (by omega), Nat.shiftLeft_eq, Nat.one_mul, hm, Nat.mul_div_cancel _ (Nat.two_pow_pos _)]
      rfl
  simp only [Datum.toInt, Datum.integral, e1, hcut]
  congr 1
  have hk : (0 : Int) < 2 ^ (-p).toNat := Int.pow_pos (by decide)
  generalize (2 : Int) ^ (-p).toNat = k at *
  cases s
  · simp only [signed, if_neg (show ¬ (false = true) by decide)] at hv ⊢
    have : 0 ≤ a := by
      rcases Int.lt_or_le a 0 with h | h
      · have := Int.mul_neg_of_neg_of_pos h hk
        rw [← hv] at this; omega
      · exact h
    simp; omega
  · simp only [signed, if_pos] at hv ⊢
    have : a ≤ 0 := by
      rcases Int.lt_or_le 0 a with h | h
      · have := Int.mul_pos h hk
        rw [← hv] at this; omega
      · exact h
    simp; omega
end Go.Proofs.YtjgfkmakfdepcaaGreatDoor
