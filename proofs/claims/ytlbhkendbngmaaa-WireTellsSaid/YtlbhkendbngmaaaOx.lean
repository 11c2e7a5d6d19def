/- What the law of own regions (Ow) is used with: rows that come in, rows that are the region's own, values that are told. -/
import Derived.Test.YtlbhkendbngmaaaOw
import Derived.Test.YtlbhkendbngmaaaQA
import Derived.Laws.AppendOwnNone
namespace Go.Proofs.Ytlbhkendbngmaaa
open Go Go.RowKit

/-- a slice that is read: nil, or cells in a row -/
def Inn (w : World) (size : Nat) (v : Value) (n : Nat) (xs : List Value) : Prop :=
  (v = .slice none 0 0 ∧ n = 0 ∧ xs = []) ∨ ∃ ad c, v = .slice (some ad) n c ∧ xs.length = n * size ∧ (0 < n → ∃ b o, ad = ⟨b, o, none⟩ ∧ b < w.heap.size ∧ ∀ j u, xs[j]? = some u → w.cell? ⟨b, o + j, none⟩ = some u)
theorem Inn.same {w w' : World} {size : Nat} {v : Value} {n : Nat} {xs : List Value} (h : Inn w size v n xs) (hs : w.heap.size ≤ w'.heap.size) (hb : ∀ k, k < w.heap.size → w'.heap[k]? = w.heap[k]?) : Inn w' size v n xs := by
  rcases h with h | ⟨ad, c, e, hl, h⟩
  · exact Or.inl h
  · refine Or.inr ⟨ad, c, e, hl, fun hn => ?_⟩
    obtain ⟨b, o, e, hlt, hc⟩ := h hn
    refine ⟨b, o, e, by omega, fun j u hu => ?_⟩
    rw [World.cell?_of_block (w := w) (hb _ hlt)]
    exact hc j u hu
theorem Inn.below {w w' : World} {size : Nat} {v : Value} {n : Nat} {xs : List Value} (h : Inn w size v n xs) (hb : Below w.heap.size w w') : Inn w' size v n xs := h.same hb.size hb.block
theorem Inn.form {w : World} {size : Nat} {v : Value} {n : Nat} {xs : List Value} (h : Inn w size v n xs) : ∃ A c, v = .slice A n c := by
  rcases h with ⟨rfl, rfl, _⟩ | ⟨ad, c, rfl, _⟩
  · exact ⟨_, _, rfl⟩
  · exact ⟨_, _, rfl⟩
theorem Inn.len {w : World} {size : Nat} {v : Value} {n : Nat} {xs : List Value} (h : Inn w size v n xs) : xs.length = n * size := by
  rcases h with ⟨_, rfl, rfl⟩ | ⟨ad, c, _, h, _⟩
  · simp
  · exact h
theorem Inn.at_ {w : World} {size : Nat} {A : Option Addr} {m c : Nat} {n : Nat} {xs : List Value} (h : Inn w size (.slice A m c) n xs) {k : Nat} (hk : k < n) :
    ∃ b o, A = some ⟨b, o, none⟩ ∧ b < w.heap.size ∧ ∀ j u, xs[k * size + j]? = some u → w.cell? ⟨b, o + k * size + j, none⟩ = some u := by
  rcases h with ⟨_, rfl, _⟩ | ⟨ad, c', e, _, h⟩
  · omega
  · simp only [Value.slice.injEq] at e
    obtain ⟨b, o, rfl, hlt, hc⟩ := h (by omega)
    exact ⟨b, o, e.1, hlt, fun j u hu => by rw [Nat.add_assoc]; exact hc _ u hu⟩
theorem Inn.of_own {w : World} {B : Nat} {e : TypeId} {size n : Nat} {v : Value} {xs : List Value} (h : w.ownsRow B e size v n xs) : Inn w size v n xs := by
  rcases h.2 with ⟨rfl, rfl⟩ | ⟨g, cap, cur, rfl, _⟩
  · exact Or.inl ⟨rfl, rfl, by have := h.1; simp at this; exact this⟩
  · have hlt := (h.lt g rfl).2
    exact Or.inr ⟨⟨g, 0, none⟩, cap, rfl, h.1, fun _ => ⟨g, 0, rfl, hlt, fun j u hu => by
      have := h.cells (g := g) rfl j u hu
      rw [add_lit'] at this; exact this⟩⟩
theorem Inn.nil (w : World) (size : Nat) : Inn w size (.slice none 0 0) 0 [] := Or.inl ⟨rfl, rfl, rfl⟩
namespace Ow
theorem walk_cons {P : Program} {ops : Array Oper} {Q : Exit → Act → World → Prop} {md : Region.Mode} {Rs : List Rel} {owns : List Bool} {eats : List (Option Nat)} {base : Nat} {w0 : World} {l r : List Oper} {o : Oper} {i : Nat} {a : Act} {vs : List Value} {f : Value → Act} {us : Value → List Value}
    (hl : l = o :: r) (h : Duty P ops md Rs owns eats base w0 i o a vs) (hf : ∀ v, a.put o.dst v = f v) (hu : ∀ v, vs ++ [v] = us v) (hr : ∀ v, Walk P ops Q md Rs owns eats base w0 r (i + 1) (f v) (us v)) : Walk P ops Q md Rs owns eats base w0 l i a vs := by
  subst hl; exact ⟨h, fun v => by rw [hf, hu]; exact hr v⟩
theorem walk_nil {P : Program} {ops : Array Oper} {Q : Exit → Act → World → Prop} {md : Region.Mode} {Rs : List Rel} {owns : List Bool} {eats : List (Option Nat)} {base : Nat} {w0 : World} {l : List Oper} {i : Nat} {a : Act} {vs : List Value}
    (hl : l = []) (h : ∀ w, Below base w0 w → (∀ j, (Nat.blt j ops.size && !eatenB eats j) = true → rel Rs j (vs.getD j undef) w) → Q .normal a w) : Walk P ops Q md Rs owns eats base w0 l i a vs := by
  subst hl
  refine fun w hb hd => h w hb fun j hj => ?_
  rw [Bool.and_eq_true] at hj
  exact hd j (by simpa using hj.1) (by simpa using hj.2)
section
variable {Rs : List Rel} {owns : List Bool} {eats : List (Option Nat)} {base : Nat} {w w' : World} {vs : List Value} {i : Nat} {v : Value}

def KeepsL (base : Nat) : List Bool → List Rel → Prop
  | o :: os, R :: rs => Keeps1 base o R ∧ KeepsL base os rs
  | [], R :: rs => Keeps1 base false R ∧ KeepsL base [] rs
  | _, [] => True
theorem KeepsL.all : ∀ (os : List Bool) (rs : List Rel), KeepsL base os rs → ∀ i, Keeps1 base (os.getD i false) (rel rs i)
  | o :: os, R :: rs, h, 0 => h.1
  | o :: os, R :: rs, h, i + 1 => KeepsL.all os rs h.2 i
  | [], R :: rs, h, 0 => h.1
  | [], R :: rs, h, i + 1 => KeepsL.all [] rs h.2 i
  | [], [], _, i => fun _ _ _ _ h _ _ _ => by cases i <;> exact h
  | _ :: _, [], _, i => fun _ _ _ _ _ _ _ _ => by simp [rel]

theorem keeps_eq (x : Value) (o : Bool) : Keeps1 base o (eqR x) := fun _ _ _ _ h _ _ _ => h
theorem keeps_own (b0 : Nat) (e : TypeId) (size n : Nat) (xs : List Value) : Keeps1 base true (fun v w => w.ownsRow b0 e size v n xs) := by
  intro v w w' row h hg _ hne
  refine h.kept hg ?_
  cases hv : v.ownBlock with
  | none => exact Or.inl rfl
  | some g => exact Or.inr (fun e => hne rfl g e.symm hv)

theorem good_same (_h1 : eatsAt eats i = none) (h2 : owns.getD i false = false) (h3 : rel Rs i v w) : Good Rs owns base (rowV eats vs i) i w v w :=
  ⟨h3, ⟨rfl, rfl, rfl, Nat.le_refl _, fun _ _ _ => rfl⟩, fun h => by rw [h2] at h; cases h⟩
theorem good_below (_h1 : eatsAt eats i = none) (h2 : owns.getD i false = false) (hb : Below w.heap.size w w') (h3 : rel Rs i v w') : Good Rs owns base (rowV eats vs i) i w v w' :=
  ⟨h3, grown_of_below hb _, fun h => by rw [h2] at h; cases h⟩
theorem good_new (_h1 : eatsAt eats i = none) (hbase : base ≤ w.heap.size) (hb : Below w.heap.size w w') (h3 : rel Rs i v w') (ho : ∀ g, v.ownBlock = some g → w.heap.size ≤ g ∧ g < w'.heap.size) : Good Rs owns base (rowV eats vs i) i w v w' :=
  ⟨h3, grown_of_below hb _, fun _ g hg => by have := ho g hg; exact ⟨by omega, this.2, Or.inl this.1⟩⟩
theorem good_eat {k : Nat} (h1 : eatsAt eats i = some k) (hbase : base ≤ w.heap.size) (hg : w.grownBy w' (vs.getD k undef).ownBlock) (h3 : rel Rs i v w') (hk : ∀ g, (vs.getD k undef).ownBlock = some g → base ≤ g)
    (hv : (v.ownBlock = (vs.getD k undef).ownBlock ∧ ∀ g, v.ownBlock = some g → g < w'.heap.size) ∨ ∀ g, v.ownBlock = some g → w.heap.size ≤ g ∧ g < w'.heap.size) : Good Rs owns base (rowV eats vs i) i w v w' := by
  have hr : rowV eats vs i = (vs.getD k undef).ownBlock := by unfold rowV; rw [h1]
  refine ⟨h3, by rw [hr]; exact hg, fun _ g hgv => ?_⟩
  rcases hv with ⟨e, h⟩ | h
  · exact ⟨hk g (e ▸ hgv), h g hgv, Or.inr (by rw [hr, ← e]; exact hgv)⟩
  · have := h g hgv
    exact ⟨by omega, this.2, Or.inl this.1⟩
end

theorem region_own' {P : Program} {ops : Array Oper} {Q : Exit → Act → World → Prop} {id : Nat} {a0 : Act} {w : World} (n : Nat) (Rs : List Rel) (owns : List Bool) (eats : List (Option Nat)) (hm : P.follows .mixedOrders = true) (hn : a0.tmps.size = n) (hs : shapeB .any ops owns eats n = true)
    (hK : KeepsL w.heap.size owns Rs) (hW : Walk P ops Q .any Rs owns eats w.heap.size w.drew ops.toList 0 a0 []) : (Code.region id ops true).wp P Q a0 w :=
  region_own Rs owns eats hm hn hs (fun i _ => KeepsL.all _ _ hK i) hW

/-- an append of what is read onto a row of one's own -/
theorem oper_append {P : Program} {o : Oper} {a : Act} {w : World} {K : Act → World → Prop} {Q : Exit → Act → World → Prop} (s x : Operand) (t : TypeId)
    (ho : o.op = .call { callee := .builtin .append, args := #[s, x], argTypes := #[t, t] })
    (base : Nat) (e : TypeId) (i : TypeInfo) (z : Value) (size bytes : Nat) (ht : P.underlying t = some (.slice e)) (hi : P.info? e = some i) (hz : i.zero = some z)
    (hsize : i.size = size) (hby : i.bytes = bytes) (hzs : z.cells.size = size) (hsz : 0 < size)
    (v : Value) (n : Nat) (xs : List Value) (hs : a.eval s = v) (hown : w.ownsRow base e size v n xs)
    (u : Value) (m : Nat) (news : List Value) (hx : a.eval x = u) (hin : Inn w size u m news) (h1 : ∀ u ∈ news, u.oneCell' = true)
    (h63 : n + m ≤ maxLen) (hbytes : (n + m) * bytes ≤ 140737488355328) (hbase : base ≤ w.heap.size)
    (h : ∀ v' w', w'.ownsRow base e size v' (n + m) (xs ++ news) → w.grownBy w' v.ownBlock → ((v'.ownBlock = v.ownBlock ∧ ∀ g, v'.ownBlock = some g → g < w'.heap.size) ∨ ∀ g, v'.ownBlock = some g → w.heap.size ≤ g ∧ g < w'.heap.size) → K (a.put o.dst v') w') :
    Oper.wp P o a w K Q := by
  rcases hin with ⟨rfl, rfl, rfl⟩ | ⟨ad, c, rfl, hl, hc⟩
  · have hrun := run_append_owned_none (P := P) (w := w) base t o.type e i size ht hi v n xs hown
    unfold Oper.wp execOp
    simp only [ho, resolve, invoke, builtin, Sem.run_bind, Sem.run_pure, Result.andThen_ok, List.map_toArray, List.map_cons, List.map_nil, hs, hx, hrun]
    exact h v w (by simpa using hown) ⟨rfl, rfl, rfl, Nat.le_refl _, fun _ _ _ => rfl⟩ (Or.inl ⟨rfl, fun g hg => (hown.lt g hg).2⟩)
  · obtain ⟨v', w', hrun, h2, h3, _, h5⟩ := run_append_own_at (P := P) w base t o.type e i z size bytes ht hi hz hsize hby hzs hsz v n xs hown ad m c news hl (fun j u hu => by
      have hm : 0 < m := by
        rcases Nat.eq_zero_or_pos m with h0 | h0
        · subst h0
          have : news = [] := List.eq_nil_of_length_eq_zero (by omega)
          subst this; simp at hu
        · exact h0
      obtain ⟨b, k, rfl, _, hc⟩ := hc hm
      rw [add_lit']; exact hc j u hu) h1 h63 hbytes hbase
    unfold Oper.wp execOp
    simp only [ho, resolve, invoke, builtin, Sem.run_bind, Sem.run_pure, Result.andThen_ok, List.map_toArray, List.map_cons, List.map_nil, hs, hx, hrun]
    refine h v' w' h2 h3 ?_
    rcases h5 with h5 | h5
    · exact Or.inl ⟨h5, fun g hg => (h2.lt g hg).2⟩
    · refine Or.inr fun g hg => ⟨?_, (h2.lt g hg).2⟩
      rw [h5] at hg
      exact Nat.le_of_eq (Option.some.inj hg)
/-- at an operation's duty -/
theorem step_append {P : Program} {ops : Array Oper} {o : Oper} {a : Act} {w : World} {K : Act → World → Prop} {Q : Exit → Act → World → Prop} {E : Prop} (hgd : o.guard = none) (s x : Operand) (t : TypeId)
    (ho : o.op = .call { callee := .builtin .append, args := #[s, x], argTypes := #[t, t] })
    (base : Nat) (e : TypeId) (i : TypeInfo) (z : Value) (size bytes : Nat) (ht : P.underlying t = some (.slice e)) (hi : P.info? e = some i) (hz : i.zero = some z)
    (hsize : i.size = size) (hby : i.bytes = bytes) (hzs : z.cells.size = size) (hsz : 0 < size)
    (v : Value) (n : Nat) (xs : List Value) (hs : a.eval s = v) (hown : w.ownsRow base e size v n xs)
    (u : Value) (m : Nat) (news : List Value) (hx : a.eval x = u) (hin : Inn w size u m news) (h1 : ∀ u ∈ news, u.oneCell' = true)
    (h63 : n + m ≤ maxLen) (hbytes : (n + m) * bytes ≤ 140737488355328) (hbase : base ≤ w.heap.size)
    (h : ∀ v' w', w'.ownsRow base e size v' (n + m) (xs ++ news) → w.grownBy w' v.ownBlock → ((v'.ownBlock = v.ownBlock ∧ ∀ g, v'.ownBlock = some g → g < w'.heap.size) ∨ ∀ g, v'.ownBlock = some g → w.heap.size ≤ g ∧ g < w'.heap.size) → K (a.put o.dst v') w') :
    if Region.wanted o (yielded ops a.tmps) = true then Oper.wp P o a w K Q else E := by
  have hw : Region.wanted o (yielded ops a.tmps) = true := by simp [Region.wanted, hgd]
  rw [if_pos hw]
  exact oper_append s x t ho base e i z size bytes ht hi hz hsize hby hzs hsz v n xs hs hown u m news hx hin h1 h63 hbytes hbase h
/-- at the list of a plain region -/
theorem wpList_append {P : Program} {ops : Array Oper} {rest : List Oper} {o : Oper} {a : Act} {w : World} {Q : Exit → Act → World → Prop} (hgd : o.guard = none) (s x : Operand) (t : TypeId)
    (ho : o.op = .call { callee := .builtin .append, args := #[s, x], argTypes := #[t, t] })
    (base : Nat) (e : TypeId) (i : TypeInfo) (z : Value) (size bytes : Nat) (ht : P.underlying t = some (.slice e)) (hi : P.info? e = some i) (hz : i.zero = some z)
    (hsize : i.size = size) (hby : i.bytes = bytes) (hzs : z.cells.size = size) (hsz : 0 < size)
    (v : Value) (n : Nat) (xs : List Value) (hs : a.eval s = v) (hown : w.ownsRow base e size v n xs)
    (u : Value) (m : Nat) (news : List Value) (hx : a.eval x = u) (hin : Inn w size u m news) (h1 : ∀ u ∈ news, u.oneCell' = true)
    (h63 : n + m ≤ maxLen) (hbytes : (n + m) * bytes ≤ 140737488355328) (hbase : base ≤ w.heap.size)
    (h : ∀ v' w', w'.ownsRow base e size v' (n + m) (xs ++ news) → w.grownBy w' v.ownBlock → ((v'.ownBlock = v.ownBlock ∧ ∀ g, v'.ownBlock = some g → g < w'.heap.size) ∨ ∀ g, v'.ownBlock = some g → w.heap.size ≤ g ∧ g < w'.heap.size) → wpList P ops Q rest (a.put o.dst v') w') :
    wpList P ops Q (o :: rest) a w :=
  wpList_plain hgd fun _ hK => oper_append s x t ho base e i z size bytes ht hi hz hsize hby hzs hsz v n xs hs hown u m news hx hin h1 h63 hbytes hbase fun v' w' h2 h3 h4 => hK _ _ (h v' w' h2 h3 h4)
end Ow
end Go.Proofs.Ytlbhkendbngmaaa
