/- Own texts, joined: F7, Ox, Oo, Ka, Kb, Kq, Ip. -/
import Derived.Test.YtjgfkmakfdepcaaGreatDoorR1
import Derived.Test.YtjgfkmakfdepcaaGreatDoorR3
import Derived.Test.YtjgfkmakfdepcaaGreatDoorR7
import Derived.Test.YtjgfkmakfdepcaaGreatDoorR8
import Derived.Laws.AppendOwnNone
import Derived.ProofKit
import Derived.Deep.Slices
import Derived.Lib.SmallJoins
import Derived.SizedLaws
import Derived.Lib.LaidTab
import Derived.Lib.LaidU8
import Derived.LaidMore
namespace Go.Proofs.YtjgfkmakfdepcaaGreatDoor
open Go.RowKit

def Names (cs : List CM) : Prop := ∀ c ∈ cs, c.nm.length ≤ 9223372036854775807

set_option maxRecDepth 100000 in
set_option maxHeartbeats 2000000 in
theorem refRight_any (v : Value) (cs : List CM) (w : World) (hR : RdC w v cs) (hl : cs.length ≤ 4611686018427387904) (hN : Names cs) :
    Calls Tryz.prog 44 #[v] w fun e w' => e = .returned (.bool (rightB cs)) ∧ Below w.heap.size w w' := by
  obtain ⟨A, c, rfl, hr⟩ := hR
  have HR := Lib.hid hr; clear hr
  have HNM := Lib.hid hN; clear hN
  obtain ⟨n, hn⟩ : ∃ n, cs.length = n := ⟨_, rfl⟩
  have HN := Lib.hid hn
  rw [hn] at hl ⊢
  clear hn
  have HNO : Hid (runB cs 0 = none → rightB cs = false) := by
    intro h
    unfold rightB; rw [h]; simp
  have HLO : Hid (32 < n → rightB cs = false) := by
    intro h
    unfold rightB; rw [HN.out, decide_eq_false (by omega)]; rfl
  have HYE : Hid (∀ vs, n ≤ 32 → runB cs 0 = some vs → rightB cs = ((vs : Int) == 1)) := by
    intro vs h1 h2
    unfold rightB; rw [HN.out, decide_eq_true h1, h2]
    by_cases h : vs = 1
    · subst h; rfl
    · rw [int_ne (show (vs : Int) ≠ 1 by omega)]; simp [h]
  go_enter Tryz.func44, Tryz.ntmps44
  go_wp2
  go_loopw [2, 3, 4] (fun x2 vv i wr => x2 = .bool false ∧ ∃ k vs : Nat, k ≤ n ∧ k ≤ 32 ∧ vs ≤ k ∧ i = .int .i64 k ∧ vv = .int .i64 vs ∧ Hid (runB (cs.drop k) vs = runB cs 0) ∧ Below w.heap.size w wr) (fun _ _ i _ => n - (intOf i).toNat)
  case atStart => exact ⟨rfl, 0, 0, by omega, by omega, by omega, rfl, rfl, rfl, Below.refl _ _⟩
  case round =>
    obtain ⟨rfl, k, vs, hk, hk32, hvs, rfl, rfl, HB, hb⟩ := hrel
    have HBL := Lib.hid hb
    by_cases hkn : k < n
    · obtain ⟨b, o, rfl, d0, d1, d2⟩ := HR.out k (by rw [HN.out]; exact hkn)
      have hrun := run_at (cs := cs) (k := k) (v := vs) (by rw [HN.out]; exact hkn)
      rw [HB.out] at hrun
      have hnm := HNM.out (cs[k]'(by rw [HN.out]; exact hkn)) (List.getElem_mem _)
      obtain ⟨cc, hcc⟩ : ∃ cc, cs[k]'(by rw [HN.out]; exact hkn) = cc := ⟨_, rfl⟩
      rw [hcc] at d0 d1 d2 hrun hnm
      have e0 := (hb.cell (cell_lt d0)).trans d0
      have e1 := (hb.cell (cell_lt d1)).trans d1
      have e2 := (hb.cell (cell_lt d2)).trans d2
      have hon := operN_le cc.op
      obtain ⟨X, hX⟩ : ∃ X : ByteArray, bstr cc.nm = .string X := ⟨_, rfl⟩
      have hfm := fun W => refOperands_any cc W hnm
      rw [hX] at e2 hfm
      have HFM := Lib.hid hfm
      have HRUN := Lib.hid hrun
      clear d0 d1 d2 hcc hrun hb hX hfm hnm
      cases hf : formedB cc
      · have HFF := Lib.hid (opsR_no hf)
        have HE := Lib.hid (HNO.out (by rw [HRUN.out, hf, if_neg (by simp)]))
        clear hf
        go_wp2_with fail
        refine (HFM.out _).mono ?_
        rintro e w2 ⟨rfl, hb2⟩
        have HB2 := Lib.hid hb2; clear hb2
        rw [HFF.out]
        go_wp2
        go_ret
        exact ⟨ret_bool HE.out.symm, HBL.out.trans (HB2.out.mono HBL.out.size)⟩
      · have HFF := Lib.hid (opsR_yes hf)
        by_cases hov : operN cc.op ≤ vs
        · have hov' : decide ((vs : Int) < (operN cc.op : Int)) = false := decide_eq_false (by omega)
          have hov2 : decide (vs < operN cc.op) = false := decide_eq_false (by omega)
          have hneg : decide ((operN cc.op : Int) < 0) = false := decide_eq_false (by omega)
          by_cases h32 : k < 32
          · have hE : runB (cs.drop (k + 1)) (vs + 1 - operN cc.op) = runB cs 0 := by rw [HRUN.out, hf, if_pos ⟨rfl, hov⟩]
            have HE := Lib.hid hE
            clear hE hf
            have h32' : decide ((32 : Int) ≤ (k : Int)) = false := decide_eq_false (by omega)
            have h32'' : decide (32 ≤ k) = false := decide_eq_false (by omega)
            go_wp2_with fail
            refine (HFM.out _).mono ?_
            rintro e w2 ⟨rfl, hb2⟩
            have HB2 := Lib.hid hb2; clear hb2
            rw [HFF.out]
            go_wp2
            go_roundw
            case rel => exact ⟨rfl, k + 1, vs + 1 - operN cc.op, by omega, by omega, by omega, by go_num, by congr 1; omega, HE, HBL.out.trans (HB2.out.mono HBL.out.size)⟩
            case measure => simp [intOf]; omega
          · have HE := Lib.hid (HLO.out (by omega))
            have h32' : (32 : Int) ≤ (k : Int) := by omega
            clear hf h32
            go_wp2_with fail
            refine (HFM.out _).mono ?_
            rintro e w2 ⟨rfl, hb2⟩
            have HB2 := Lib.hid hb2; clear hb2
            rw [HFF.out]
            go_wp2
            go_ret
            exact ⟨ret_bool HE.out.symm, HBL.out.trans (HB2.out.mono HBL.out.size)⟩
        · have HE := Lib.hid (HNO.out (by rw [HRUN.out, hf, if_neg (by simp; omega)]))
          have hov' : (vs : Int) < (operN cc.op : Int) := by omega
          have hneg : decide ((operN cc.op : Int) < 0) = false := decide_eq_false (by omega)
          clear hf
          go_wp2_with fail
          refine (HFM.out _).mono ?_
          rintro e w2 ⟨rfl, hb2⟩
          have HB2 := Lib.hid hb2; clear hb2
          rw [HFF.out]
          go_wp2
          go_ret
          exact ⟨ret_bool HE.out.symm, HBL.out.trans (HB2.out.mono HBL.out.size)⟩
    · have hE : runB cs 0 = some vs := by
        rw [← HB.out, List.drop_of_length_le (by rw [HN.out]; omega)]; rfl
      have HE := Lib.hid (HYE.out vs (by omega) hE)
      clear hE
      go_wp2
      go_ret
      exact ⟨ret_bool HE.out.symm, HBL.out⟩

end Go.Proofs.YtjgfkmakfdepcaaGreatDoor
namespace Go.Proofs.YtjgfkmakfdepcaaGreatDoor
open Go Go.RowKit

/-- a slice that is read: nil, or cells in a row -/
def Inn (w : World) (size : Nat) (v : Value) (n : Nat) (xs : List Value) : Prop :=
  (v = .slice none 0 0 ∧ n = 0 ∧ xs = []) ∨ ∃ ad c, v = .slice (some ad) n c ∧ xs.length = n * size ∧ (0 < n → ∃ b o, ad = ⟨b, o, none⟩ ∧ b < w.heap.size ∧ ∀ j u, xs[j]? = some u → w.cell? ⟨b, o + j, none⟩ = some u)
theorem Inn.same {w w' : World} {size : Nat} {v : Value} {n : Nat} {xs : List Value} (h : Inn w size v n xs) (hs : w.heap.size ≤ w'.heap.size) (hb : ∀ k, k < w.heap.size → w'.heap[k]? = w.heap[k]?) : Inn w' size v n xs := by
  rcases h with h | ⟨ad, c, e, hl, h⟩
  · exact Or.inl h
  · refine Or.inr ⟨ad, c, e, hl, fun hn => ?_⟩
    obtain ⟨b, o, e, hlt, hc⟩ := h hn
    refine ⟨b, o, e, by omega, fun j u hu => ?_⟩
    rw [World.cell?_of_block (w := w) (hb _ hlt)]
    exact hc j u hu
theorem Inn.below {w w' : World} {size : Nat} {v : Value} {n : Nat} {xs : List Value} (h : Inn w size v n xs) (hb : Below w.heap.size w w') : Inn w' size v n xs := h.same hb.size hb.block
theorem Inn.form {w : World} {size : Nat} {v : Value} {n : Nat} {xs : List Value} (h : Inn w size v n xs) : ∃ A c, v = .slice A n c := by
  rcases h with ⟨rfl, rfl, _⟩ | ⟨ad, c, rfl, _⟩
  · exact ⟨_, _, rfl⟩
  · exact ⟨_, _, rfl⟩
theorem Inn.len {w : World} {size : Nat} {v : Value} {n : Nat} {xs : List Value} (h : Inn w size v n xs) : xs.length = n * size := by
  rcases h with ⟨_, rfl, rfl⟩ | ⟨ad, c, _, h, _⟩
  · simp
  · exact h
theorem Inn.at_ {w : World} {size : Nat} {A : Option Addr} {m c : Nat} {n : Nat} {xs : List Value} (h : Inn w size (.slice A m c) n xs) {k : Nat} (hk : k < n) :
    ∃ b o, A = some ⟨b, o, none⟩ ∧ b < w.heap.size ∧ ∀ j u, xs[k * size + j]? = some u → w.cell? ⟨b, o + k * size + j, none⟩ = some u := by
  rcases h with ⟨_, rfl, _⟩ | ⟨ad, c', e, _, h⟩
  · omega
  · simp only [Value.slice.injEq] at e
    obtain ⟨b, o, rfl, hlt, hc⟩ := h (by omega)
    exact ⟨b, o, e.1, hlt, fun j u hu => by rw [Nat.add_assoc]; exact hc _ u hu⟩
theorem Inn.of_own {w : World} {B : Nat} {e : TypeId} {size n : Nat} {v : Value} {xs : List Value} (h : w.ownsRow B e size v n xs) : Inn w size v n xs := by
  rcases h.2 with ⟨rfl, rfl⟩ | ⟨g, cap, cur, rfl, _⟩
  · exact Or.inl ⟨rfl, rfl, by have := h.1; simp at this; exact this⟩
  · have hlt := (h.lt g rfl).2
    exact Or.inr ⟨⟨g, 0, none⟩, cap, rfl, h.1, fun _ => ⟨g, 0, rfl, hlt, fun j u hu => by
      have := h.cells (g := g) rfl j u hu
      rw [add_lit'] at this; exact this⟩⟩
theorem Inn.nil (w : World) (size : Nat) : Inn w size (.slice none 0 0) 0 [] := Or.inl ⟨rfl, rfl, rfl⟩
/-- cells that come in, and as a row -/
theorem RdI.inn {w : World} {v : Value} {cs : List CM} (h : RdI w v cs) : Inn w 3 v cs.length (flat cs) := by
  rcases h with ⟨rfl, rfl⟩ | ⟨ad, c, rfl, h⟩
  · exact Inn.nil _ _
  · by_cases h0 : 0 < cs.length
    · obtain ⟨A, c', e, hr⟩ := h
      simp only [Value.slice.injEq] at e
      obtain ⟨b, o, hA, d0, _⟩ := hr 0 h0
      rw [hA] at e
      obtain ⟨e1, _, rfl⟩ := e
      obtain rfl := Option.some.inj e1
      refine Or.inr ⟨⟨b, o, none⟩, c, rfl, by rw [flat_length], fun _ => ⟨b, o, rfl, cell_lt d0, fun j u hu => ?_⟩⟩
      obtain ⟨i, hi, hc⟩ := flat_get hu
      obtain ⟨b', k, hA', d0, d1, d2⟩ := hr i hi
      rw [hA] at hA'
      simp only [Option.some.injEq, Addr.mk.injEq, and_true] at hA'
      obtain ⟨rfl, rfl⟩ := hA'
      rcases hc with ⟨rfl, rfl⟩ | ⟨rfl, rfl⟩ | ⟨rfl, rfl⟩
      · exact d0
      · rw [← Nat.add_assoc]; exact d1
      · rw [← Nat.add_assoc]; exact d2
    · have : cs = [] := List.eq_nil_of_length_eq_zero (by omega)
      subst this
      exact Or.inr ⟨ad, c, rfl, rfl, fun h => absurd h (by simp)⟩
namespace Ow
theorem walk_cons {P : Program} {ops : Array Oper} {Q : Exit → Act → World → Prop} {md : Region.Mode} {Rs : List Rel} {owns : List Bool} {eats : List (Option Nat)} {base : Nat} {w0 : World} {l r : List Oper} {o : Oper} {i : Nat} {a : Act} {vs : List Value} {f : Value → Act} {us : Value → List Value}
    (hl : l = o :: r) (h : Duty P ops md Rs owns eats base w0 i o a vs) (hf : ∀ v, a.put o.dst v = f v) (hu : ∀ v, vs ++ [v] = us v) (hr : ∀ v, Walk P ops Q md Rs owns eats base w0 r (i + 1) (f v) (us v)) : Walk P ops Q md Rs owns eats base w0 l i a vs := by
  subst hl; exact ⟨h, fun v => by rw [hf, hu]; exact hr v⟩
theorem walk_nil {P : Program} {ops : Array Oper} {Q : Exit → Act → World → Prop} {md : Region.Mode} {Rs : List Rel} {owns : List Bool} {eats : List (Option Nat)} {base : Nat} {w0 : World} {l : List Oper} {i : Nat} {a : Act} {vs : List Value}
    (hl : l = []) (h : ∀ w, Below base w0 w → (∀ j, (Nat.blt j ops.size && !eatenB eats j) = true → rel Rs j (vs.getD j undef) w) → Q .normal a w) : Walk P ops Q md Rs owns eats base w0 l i a vs := by
  subst hl
  refine fun w hb hd => h w hb fun j hj => ?_
  rw [Bool.and_eq_true] at hj
  exact hd j (by simpa using hj.1) (by simpa using hj.2)
section
variable {Rs : List Rel} {owns : List Bool} {eats : List (Option Nat)} {base : Nat} {w w' : World} {vs : List Value} {i : Nat} {v : Value}

def KeepsL (base : Nat) : List Bool → List Rel → Prop
  | o :: os, R :: rs => Keeps1 base o R ∧ KeepsL base os rs
  | [], R :: rs => Keeps1 base false R ∧ KeepsL base [] rs
  | _, [] => True
theorem KeepsL.all : ∀ (os : List Bool) (rs : List Rel), KeepsL base os rs → ∀ i, Keeps1 base (os.getD i false) (rel rs i)
  | o :: os, R :: rs, h, 0 => h.1
  | o :: os, R :: rs, h, i + 1 => KeepsL.all os rs h.2 i
  | [], R :: rs, h, 0 => h.1
  | [], R :: rs, h, i + 1 => KeepsL.all [] rs h.2 i
  | [], [], _, i => fun _ _ _ _ h _ _ _ => by cases i <;> exact h
  | _ :: _, [], _, i => fun _ _ _ _ _ _ _ _ => by simp [rel]

theorem keeps_eq (x : Value) (o : Bool) : Keeps1 base o (eqR x) := fun _ _ _ _ h _ _ _ => h
theorem keeps_own (b0 : Nat) (e : TypeId) (size n : Nat) (xs : List Value) : Keeps1 base true (fun v w => w.ownsRow b0 e size v n xs) := by
  intro v w w' row h hg _ hne
  refine h.kept hg ?_
  cases hv : v.ownBlock with
  | none => exact Or.inl rfl
  | some g => exact Or.inr (fun e => hne rfl g e.symm hv)

theorem good_same (_h1 : eatsAt eats i = none) (h2 : owns.getD i false = false) (h3 : rel Rs i v w) : Good Rs owns base (rowV eats vs i) i w v w :=
  ⟨h3, ⟨rfl, rfl, rfl, Nat.le_refl _, fun _ _ _ => rfl⟩, fun h => by rw [h2] at h; cases h⟩
theorem good_below (_h1 : eatsAt eats i = none) (h2 : owns.getD i false = false) (hb : Below w.heap.size w w') (h3 : rel Rs i v w') : Good Rs owns base (rowV eats vs i) i w v w' :=
  ⟨h3, grown_of_below hb _, fun h => by rw [h2] at h; cases h⟩
theorem good_new (_h1 : eatsAt eats i = none) (hbase : base ≤ w.heap.size) (hb : Below w.heap.size w w') (h3 : rel Rs i v w') (ho : ∀ g, v.ownBlock = some g → w.heap.size ≤ g ∧ g < w'.heap.size) : Good Rs owns base (rowV eats vs i) i w v w' :=
  ⟨h3, grown_of_below hb _, fun _ g hg => by have := ho g hg; exact ⟨by omega, this.2, Or.inl this.1⟩⟩
theorem good_eat {k : Nat} (h1 : eatsAt eats i = some k) (hbase : base ≤ w.heap.size) (hg : w.grownBy w' (vs.getD k undef).ownBlock) (h3 : rel Rs i v w') (hk : ∀ g, (vs.getD k undef).ownBlock = some g → base ≤ g)
    (hv : (v.ownBlock = (vs.getD k undef).ownBlock ∧ ∀ g, v.ownBlock = some g → g < w'.heap.size) ∨ ∀ g, v.ownBlock = some g → w.heap.size ≤ g ∧ g < w'.heap.size) : Good Rs owns base (rowV eats vs i) i w v w' := by
  have hr : rowV eats vs i = (vs.getD k undef).ownBlock := by unfold rowV; rw [h1]
  refine ⟨h3, by rw [hr]; exact hg, fun _ g hgv => ?_⟩
  rcases hv with ⟨e, h⟩ | h
  · exact ⟨hk g (e ▸ hgv), h g hgv, Or.inr (by rw [hr, ← e]; exact hgv)⟩
  · have := h g hgv
    exact ⟨by omega, this.2, Or.inl this.1⟩
end

theorem region_own' {P : Program} {ops : Array Oper} {Q : Exit → Act → World → Prop} {id : Nat} {a0 : Act} {w : World} (n : Nat) (Rs : List Rel) (owns : List Bool) (eats : List (Option Nat)) (hm : P.follows .mixedOrders = true) (hn : a0.tmps.size = n) (hs : shapeB .any ops owns eats n = true)
    (hK : KeepsL w.heap.size owns Rs) (hW : Walk P ops Q .any Rs owns eats w.heap.size w.drew ops.toList 0 a0 []) : (Code.region id ops true).wp P Q a0 w :=
  region_own Rs owns eats hm hn hs (fun i _ => KeepsL.all _ _ hK i) hW

/-- an append of what is read onto a row of one's own -/
theorem oper_append {P : Program} {o : Oper} {a : Act} {w : World} {K : Act → World → Prop} {Q : Exit → Act → World → Prop} (s x : Operand) (t : TypeId)
    (ho : o.op = .call { callee := .builtin .append, args := #[s, x], argTypes := #[t, t] })
    (base : Nat) (e : TypeId) (i : TypeInfo) (z : Value) (size bytes : Nat) (ht : P.underlying t = some (.slice e)) (hi : P.info? e = some i) (hz : i.zero = some z)
    (hsize : i.size = size) (hby : i.bytes = bytes) (hzs : z.cells.size = size) (hsz : 0 < size)
    (v : Value) (n : Nat) (xs : List Value) (hs : a.eval s = v) (hown : w.ownsRow base e size v n xs)
    (u : Value) (m : Nat) (news : List Value) (hx : a.eval x = u) (hin : Inn w size u m news) (h1 : ∀ u ∈ news, u.oneCell' = true)
    (h63 : n + m ≤ maxLen) (hbytes : (n + m) * bytes ≤ 140737488355328) (hbase : base ≤ w.heap.size)
    (h : ∀ v' w', w'.ownsRow base e size v' (n + m) (xs ++ news) → w.grownBy w' v.ownBlock → ((v'.ownBlock = v.ownBlock ∧ ∀ g, v'.ownBlock = some g → g < w'.heap.size) ∨ ∀ g, v'.ownBlock = some g → w.heap.size ≤ g ∧ g < w'.heap.size) → K (a.put o.dst v') w') :
    Oper.wp P o a w K Q := by
  rcases hin with ⟨rfl, rfl, rfl⟩ | ⟨ad, c, rfl, hl, hc⟩
  · have hrun := run_append_owned_none (P := P) (w := w) base t o.type e i size ht hi v n xs hown
    unfold Oper.wp execOp
    simp only [ho, resolve, invoke, builtin, Sem.run_bind, Sem.run_pure, Result.andThen_ok, List.map_toArray, List.map_cons, List.map_nil, hs, hx, hrun]
    exact h v w (by simpa using hown) ⟨rfl, rfl, rfl, Nat.le_refl _, fun _ _ _ => rfl⟩ (Or.inl ⟨rfl, fun g hg => (hown.lt g hg).2⟩)
  · obtain ⟨v', w', hrun, h2, h3, _, h5⟩ := run_append_own_at (P := P) w base t o.type e i z size bytes ht hi hz hsize hby hzs hsz v n xs hown ad m c news hl (fun j u hu => by
      have hm : 0 < m := by
        rcases Nat.eq_zero_or_pos m with h0 | h0
        · subst h0
          have : news = [] := List.eq_nil_of_length_eq_zero (by omega)
          subst this; simp at hu
        · exact h0
      obtain ⟨b, k, rfl, _, hc⟩ := hc hm
      rw [add_lit']; exact hc j u hu) h1 h63 hbytes hbase
    unfold Oper.wp execOp
    simp only [ho, resolve, invoke, builtin, Sem.run_bind, Sem.run_pure, Result.andThen_ok, List.map_toArray, List.map_cons, List.map_nil, hs, hx, hrun]
    refine h v' w' h2 h3 ?_
    rcases h5 with h5 | h5
    · exact Or.inl ⟨h5, fun g hg => (h2.lt g hg).2⟩
    · refine Or.inr fun g hg => ⟨?_, (h2.lt g hg).2⟩
      rw [h5] at hg
      exact Nat.le_of_eq (Option.some.inj hg)
/-- at an operation's duty -/
theorem step_append {P : Program} {ops : Array Oper} {o : Oper} {a : Act} {w : World} {K : Act → World → Prop} {Q : Exit → Act → World → Prop} {E : Prop} (hgd : o.guard = none) (s x : Operand) (t : TypeId)
    (ho : o.op = .call { callee := .builtin .append, args := #[s, x], argTypes := #[t, t] })
    (base : Nat) (e : TypeId) (i : TypeInfo) (z : Value) (size bytes : Nat) (ht : P.underlying t = some (.slice e)) (hi : P.info? e = some i) (hz : i.zero = some z)
    (hsize : i.size = size) (hby : i.bytes = bytes) (hzs : z.cells.size = size) (hsz : 0 < size)
    (v : Value) (n : Nat) (xs : List Value) (hs : a.eval s = v) (hown : w.ownsRow base e size v n xs)
    (u : Value) (m : Nat) (news : List Value) (hx : a.eval x = u) (hin : Inn w size u m news) (h1 : ∀ u ∈ news, u.oneCell' = true)
    (h63 : n + m ≤ maxLen) (hbytes : (n + m) * bytes ≤ 140737488355328) (hbase : base ≤ w.heap.size)
    (h : ∀ v' w', w'.ownsRow base e size v' (n + m) (xs ++ news) → w.grownBy w' v.ownBlock → ((v'.ownBlock = v.ownBlock ∧ ∀ g, v'.ownBlock = some g → g < w'.heap.size) ∨ ∀ g, v'.ownBlock = some g → w.heap.size ≤ g ∧ g < w'.heap.size) → K (a.put o.dst v') w') :
    if Region.wanted o (yielded ops a.tmps) = true then Oper.wp P o a w K Q else E := by
  have hw : Region.wanted o (yielded ops a.tmps) = true := by simp [Region.wanted, hgd]
  rw [if_pos hw]
  exact oper_append s x t ho base e i z size bytes ht hi hz hsize hby hzs hsz v n xs hs hown u m news hx hin h1 h63 hbytes hbase h
/-- at the list of a plain region -/
theorem wpList_append {P : Program} {ops : Array Oper} {rest : List Oper} {o : Oper} {a : Act} {w : World} {Q : Exit → Act → World → Prop} (hgd : o.guard = none) (s x : Operand) (t : TypeId)
    (ho : o.op = .call { callee := .builtin .append, args := #[s, x], argTypes := #[t, t] })
    (base : Nat) (e : TypeId) (i : TypeInfo) (z : Value) (size bytes : Nat) (ht : P.underlying t = some (.slice e)) (hi : P.info? e = some i) (hz : i.zero = some z)
    (hsize : i.size = size) (hby : i.bytes = bytes) (hzs : z.cells.size = size) (hsz : 0 < size)
    (v : Value) (n : Nat) (xs : List Value) (hs : a.eval s = v) (hown : w.ownsRow base e size v n xs)
    (u : Value) (m : Nat) (news : List Value) (hx : a.eval x = u) (hin : Inn w size u m news) (h1 : ∀ u ∈ news, u.oneCell' = true)
    (h63 : n + m ≤ maxLen) (hbytes : (n + m) * bytes ≤ 140737488355328) (hbase : base ≤ w.heap.size)
    (h : ∀ v' w', w'.ownsRow base e size v' (n + m) (xs ++ news) → w.grownBy w' v.ownBlock → ((v'.ownBlock = v.ownBlock ∧ ∀ g, v'.ownBlock = some g → g < w'.heap.size) ∨ ∀ g, v'.ownBlock = some g → w.heap.size ≤ g ∧ g < w'.heap.size) → wpList P ops Q rest (a.put o.dst v') w') :
    wpList P ops Q (o :: rest) a w :=
  wpList_plain hgd fun _ hK => oper_append s x t ho base e i z size bytes ht hi hz hsize hby hzs hsz v n xs hs hown u m news hx hin h1 h63 hbytes hbase fun v' w' h2 h3 h4 => hK _ _ (h v' w' h2 h3 h4)
end Ow
end Go.Proofs.YtjgfkmakfdepcaaGreatDoor
namespace Go.Proofs.YtjgfkmakfdepcaaGreatDoor
open Go.RowKit Go.ChangeShapes Go.WideShapes Go.ChangeAt

section
variable {H : Type} {enc : TypeId × Value → H} {P : Program} {W : World}

/-- the rows of a slice that comes in: each one is read as an element -/
theorem open_inn {t e : TypeId} {size n : Nat} {v : Value} {y : DataW H × List MemPlace} (ht : P.underlying t = some (.slice e)) (hC : P.cellsOf e = size) (h0 : 0 < size)
    (h : DataW.trod enc P W 0 (fun _ => true) true n t [v] = some y) :
    ∃ rows : List (List Value), Inn W size v rows.length rows.flatten ∧ (∀ r ∈ rows, r.length = size ∧ ∃ k x, DataW.trod enc P W 0 (fun _ => true) true k e r = some x) ∧
      ((y.1 = .nil ∧ rows = []) ∨ ∃ es sp, y.1 = .slice es sp ∧ rows.length = es.length) ∧ ∀ A m c, v = .slice A m c → m ≤ c := by
  rcases Go.Deep.open_slice ht h with ⟨hcs, hx⟩ | ⟨a, len, cap, m, k, D, Pl, hcs, _, hl, hm, hmm, hx, hi⟩
  · simp at hcs
    subst hcs
    exact ⟨[], Inn.nil _ _, (by intro r hr; cases hr), Or.inl ⟨by rw [hx], rfl⟩, fun A m c e => by injection e; omega⟩
  · simp at hcs
    subst hcs
    rw [if_pos rfl] at hmm
    subst hmm
    rw [hC] at hi
    have hall : ∀ q, q ≤ len → ∃ rows : List (List Value), rows.length = q ∧ (∀ r ∈ rows, r.length = size ∧ ∃ k x, DataW.trod enc P W 0 (fun _ => true) true k e r = some x) ∧ ∀ j u, rows.flatten[j]? = some u → W.cell? (a.add j) = some u := by
      intro q
      induction q with
      | zero => intro _; exact ⟨[], rfl, (by intro r hr; cases hr), fun j u hu => by simp at hu⟩
      | succ q ih =>
        intro hq
        obtain ⟨rows, h1, h2, h3⟩ := ih (by omega)
        obtain ⟨r, hr1, hr2⟩ := hi q (by omega)
        obtain ⟨_, hrl, hat⟩ := World.cells?_some hr1
        have hfl : rows.flatten.length = q * size := by
          rw [← h1]
          clear h3 hr1 hr2 hat ih h1
          induction rows with
          | nil => simp
          | cons x rs ihr =>
            rw [List.flatten_cons, List.length_append, (h2 x (by simp)).1, ihr (fun r hr => h2 r (by simp [hr]))]
            simp [Nat.succ_mul]; omega
        refine ⟨rows ++ [r], by simp [h1], fun r' hr' => ?_, fun j u hu => ?_⟩
        · rcases List.mem_append.1 hr' with h | h
          · exact h2 r' h
          · simp at h; subst h; exact ⟨hrl, _, _, hr2⟩
        · rw [List.flatten_append] at hu
          by_cases hj : j < q * size
          · rw [List.getElem?_append_left (by omega)] at hu
            exact h3 j u hu
          · rw [List.getElem?_append_right (by omega), hfl] at hu
            simp only [List.flatten_cons, List.flatten_nil, List.append_nil] at hu
            have hjl := (List.getElem?_eq_some_iff.1 hu).1
            have h4 := hat (j - q * size) (by omega)
            rw [Go.Deep.add_add, hu] at h4
            rw [show q * size + (j - q * size) = j by omega] at h4
            exact h4
    obtain ⟨rows, h1, h2, h3⟩ := hall len (Nat.le_refl _)
    have hfl : rows.flatten.length = len * size := by
      rw [← h1]
      clear h3 hall h1
      induction rows with
      | nil => simp
      | cons x rs ihr =>
        rw [List.flatten_cons, List.length_append, (h2 x (by simp)).1, ihr (fun r hr => h2 r (by simp [hr]))]
        simp [Nat.succ_mul]; omega
    refine ⟨rows, Or.inr ⟨a, m, by rw [h1], by rw [hfl, h1], fun hn => ?_⟩, h2, Or.inr ⟨_, _, by rw [hx], by simp [h1]⟩, fun A q c e => by injection e; omega⟩
    rw [h1] at hn
    have hlt : 0 < rows.flatten.length := by rw [hfl]; exact Nat.mul_pos hn h0
    have hc0 := h3 0 _ (List.getElem?_eq_getElem hlt)
    obtain ⟨bl, off, spot⟩ := a
    have hc0' : W.cell? ⟨bl, off, spot⟩ = some (rows.flatten[0]'hlt) := by simpa [Addr.add] using hc0
    have := Go.Proofs.cell_spot hc0'
    subst this
    exact ⟨bl, off, rfl, cell_lt hc0', fun j u hu => by have := h3 j u hu; rw [add_lit'] at this; exact this⟩
end
end Go.Proofs.YtjgfkmakfdepcaaGreatDoor
namespace Go.Proofs.YtjgfkmakfdepcaaGreatDoor

/-- a variable -/
structure VM where
  nm : List UInt8
  kd : Int
  lo : Int
  hi : Int
  ik : Int
  ia : Int
  ib : Int

section
variable (vs : List VM) (ss : List (List UInt8))

end

section
variable {vs : List VM} {ss : List (List UInt8)}

end
end Go.Proofs.YtjgfkmakfdepcaaGreatDoor
namespace Go.Proofs.YtjgfkmakfdepcaaGreatDoor
open Go.RowKit

/-- a variable's seven places in memory; a list's -/
def varV (v : VM) : List Value := [bstr v.nm, .int .i64 v.kd, .int .i64 v.lo, .int .i64 v.hi, .int .i64 v.ik, .int .i64 v.ia, .int .i64 v.ib]
def flatV (vs : List VM) : List Value := vs.flatMap varV
theorem flatV_at {vs : List VM} {i : Nat} (h : i < vs.length) {j : Nat} (hj : j < 7) : (flatV vs)[i * 7 + j]? = (varV vs[i])[j]? := by
  induction vs generalizing i with
  | nil => simp at h
  | cons v r ih =>
    show (varV v ++ flatV r)[i * 7 + j]? = _
    cases i with
    | zero => rw [List.getElem?_append_left (by simp [varV]; omega)]; simp
    | succ k =>
      rw [List.getElem?_append_right (by simp [varV]; omega)]
      have e : (k + 1) * 7 + j - (varV v).length = k * 7 + j := by simp [varV]; omega
      rw [e]
      exact ih (by simpa using h)
theorem flatV_vals (vs : List VM) : ∀ u ∈ flatV vs, u.oneCell' = true := by
  intro u hu
  obtain ⟨v, _, hv⟩ := List.mem_flatMap.1 hu
  simp only [varV, List.mem_cons, List.not_mem_nil, or_false] at hv
  rcases hv with rfl | rfl | rfl | rfl | rfl | rfl | rfl <;> rfl

/-- a slice that reads as a list of variables, of names -/
def RdV (w : World) (v : Value) (vs : List VM) : Prop := Inn w 7 v vs.length (flatV vs)
def RdW (w : World) (v : Value) (xs : List (List UInt8)) : Prop := Inn w 1 v xs.length (xs.map bstr)
theorem RdV.below {w w' : World} {v : Value} {vs : List VM} (h : RdV w v vs) (hb : Below w.heap.size w w') : RdV w' v vs := Inn.below h hb
theorem RdW.below {w w' : World} {v : Value} {xs : List (List UInt8)} (h : RdW w v xs) (hb : Below w.heap.size w w') : RdW w' v xs := Inn.below h hb
theorem RdV.at_ {w : World} {A : Option Addr} {m c : Nat} {vs : List VM} (h : RdV w (.slice A m c) vs) {k : Nat} (hk : k < vs.length) :
    ∃ b o, A = some ⟨b, o, none⟩ ∧ b < w.heap.size ∧ w.cell? ⟨b, o + k * 7, none⟩ = some (bstr vs[k].nm) ∧ w.cell? ⟨b, o + k * 7 + 1, none⟩ = some (.int .i64 vs[k].kd) ∧ w.cell? ⟨b, o + k * 7 + 2, none⟩ = some (.int .i64 vs[k].lo) ∧
      w.cell? ⟨b, o + k * 7 + 3, none⟩ = some (.int .i64 vs[k].hi) ∧ w.cell? ⟨b, o + k * 7 + 4, none⟩ = some (.int .i64 vs[k].ik) ∧ w.cell? ⟨b, o + k * 7 + 5, none⟩ = some (.int .i64 vs[k].ia) ∧ w.cell? ⟨b, o + k * 7 + 6, none⟩ = some (.int .i64 vs[k].ib) := by
  obtain ⟨b, o, hA, hlt, hc⟩ := Inn.at_ h hk
  exact ⟨b, o, hA, hlt, hc 0 _ ((flatV_at hk (by omega)).trans rfl), hc 1 _ ((flatV_at hk (by omega)).trans rfl), hc 2 _ ((flatV_at hk (by omega)).trans rfl), hc 3 _ ((flatV_at hk (by omega)).trans rfl), hc 4 _ ((flatV_at hk (by omega)).trans rfl), hc 5 _ ((flatV_at hk (by omega)).trans rfl), hc 6 _ ((flatV_at hk (by omega)).trans rfl)⟩
theorem RdW.at_ {w : World} {A : Option Addr} {m c : Nat} {xs : List (List UInt8)} (h : RdW w (.slice A m c) xs) {k : Nat} (hk : k < xs.length) :
    ∃ b o, A = some ⟨b, o, none⟩ ∧ b < w.heap.size ∧ w.cell? ⟨b, o + k, none⟩ = some (bstr xs[k]) := by
  obtain ⟨b, o, hA, hlt, hc⟩ := Inn.at_ h hk
  have := hc 0 (bstr xs[k]) (by simp [hk])
  exact ⟨b, o, hA, hlt, by simpa using this⟩
theorem RdV.form {w : World} {v : Value} {vs : List VM} (h : RdV w v vs) : ∃ A c, v = .slice A vs.length c := Inn.form h
theorem RdW.form {w : World} {v : Value} {xs : List (List UInt8)} (h : RdW w v xs) : ∃ A c, v = .slice A xs.length c := Inn.form h
end Go.Proofs.YtjgfkmakfdepcaaGreatDoor
namespace Go.Proofs.YtjgfkmakfdepcaaGreatDoor
open Go.RowKit Go.ChangeShapes Go.WideShapes Go.ChangeAt

theorem cellsCell : Tryz.prog.cellsOf 93 = 3 := by kernel_rfl
theorem bytesCell : Tryz.prog.bytesOf 93 = 32 := by kernel_rfl
theorem cellsVar : Tryz.prog.cellsOf 56 = 7 := by kernel_rfl
theorem bytesVar : Tryz.prog.bytesOf 56 = 64 := by kernel_rfl
theorem cellsVal : Tryz.prog.cellsOf 54 = 3 := by kernel_rfl
theorem cellsI : Tryz.prog.cellsOf 3 = 1 := by kernel_rfl
theorem cellsI64 : Tryz.prog.cellsOf 2 = 1 := by kernel_rfl
theorem cellsS : Tryz.prog.cellsOf 9 = 1 := by kernel_rfl
section
variable {H : Type} {enc : TypeId × Value → H} {W : World} {base : Nat} {sp : Nat → Bool} {held : Bool} {fuel : Nat} {cs : List Value}

set_option maxRecDepth 100000 in
theorem cell_struct {x : DataW H × List MemPlace} (h : DataW.trod enc Tryz.prog W base sp held fuel 93 cs = some x) : ∃ (o a : Int) (s : ByteArray), cs = [.int .i64 o, .int .i64 a, .string s] ∧ s.size ≤ maxLen := by
  obtain ⟨xs, n, rfl, _, hl, hxl, hf⟩ := DataW.trod_struct Tryz.underlying93 h
  rw [cellsCell] at hl
  match cs, hl with
  | [u0, u1, u2], _ =>
    have e0 : DataW.trod enc Tryz.prog W base sp held n 3 (([u0, u1, u2].drop 0).take (Tryz.prog.cellsOf 3)) = xs[0]? := hf 0 _ rfl
    have e1 : DataW.trod enc Tryz.prog W base sp held n 2 (([u0, u1, u2].drop 1).take (Tryz.prog.cellsOf 2)) = xs[1]? := hf 1 _ rfl
    have e2 : DataW.trod enc Tryz.prog W base sp held n 9 (([u0, u1, u2].drop 2).take (Tryz.prog.cellsOf 9)) = xs[2]? := hf 2 _ rfl
    have hx3 : xs.length = 3 := hxl
    rw [cellsI, List.getElem?_eq_getElem (by omega)] at e0
    rw [cellsI64, List.getElem?_eq_getElem (by omega)] at e1
    rw [cellsS, List.getElem?_eq_getElem (by omega)] at e2
    obtain ⟨o, h0, _, _⟩ := DataW.trod_int Tryz.underlying3 e0
    obtain ⟨a, h1, _, _⟩ := DataW.trod_int Tryz.underlying2 e1
    obtain ⟨s, h2, _, hs⟩ := DataW.trod_string Tryz.underlying9 e2
    simp at h0 h1 h2
    exact ⟨o, a, s, by rw [h0, h1, h2], hs⟩


theorem int3 {u0 u1 u2 : Value} {x : DataW H × List MemPlace} (h : DataW.trod enc Tryz.prog W base sp held fuel 54 [u0, u1, u2] = some x) : ∃ a b c : Int, u0 = .int .i64 a ∧ u1 = .int .i64 b ∧ u2 = .int .i64 c := by
  obtain ⟨xs, n, rfl, _, hl, hxl, hf⟩ := DataW.trod_struct Tryz.underlying54 h
  have e0 : DataW.trod enc Tryz.prog W base sp held n 3 (([u0, u1, u2].drop 0).take (Tryz.prog.cellsOf 3)) = xs[0]? := hf 0 _ rfl
  have e1 : DataW.trod enc Tryz.prog W base sp held n 2 (([u0, u1, u2].drop 1).take (Tryz.prog.cellsOf 2)) = xs[1]? := hf 1 _ rfl
  have e2 : DataW.trod enc Tryz.prog W base sp held n 2 (([u0, u1, u2].drop 2).take (Tryz.prog.cellsOf 2)) = xs[2]? := hf 2 _ rfl
  have hx3 : xs.length = 3 := hxl
  rw [cellsI, List.getElem?_eq_getElem (by omega)] at e0
  rw [cellsI64, List.getElem?_eq_getElem (by omega)] at e1 e2
  obtain ⟨a, h0, _, _⟩ := DataW.trod_int Tryz.underlying3 e0
  obtain ⟨b, h1, _, _⟩ := DataW.trod_int Tryz.underlying2 e1
  obtain ⟨c, h2, _, _⟩ := DataW.trod_int Tryz.underlying2 e2
  simp at h0 h1 h2
  exact ⟨a, b, c, h0, h1, h2⟩

set_option maxRecDepth 100000 in
theorem var_struct {x : DataW H × List MemPlace} (h : DataW.trod enc Tryz.prog W base sp held fuel 56 cs = some x) : ∃ v : VM, cs = varV v ∧ v.nm.length ≤ maxLen := by
  obtain ⟨xs, n, rfl, _, hl, hxl, hf⟩ := DataW.trod_struct Tryz.underlying56 h
  rw [cellsVar] at hl
  match cs, hl with
  | [u0, u1, u2, u3, u4, u5, u6], _ =>
    have e0 : DataW.trod enc Tryz.prog W base sp held n 9 (([u0, u1, u2, u3, u4, u5, u6].drop 0).take (Tryz.prog.cellsOf 9)) = xs[0]? := hf 0 _ rfl
    have e1 : DataW.trod enc Tryz.prog W base sp held n 3 (([u0, u1, u2, u3, u4, u5, u6].drop 1).take (Tryz.prog.cellsOf 3)) = xs[1]? := hf 1 _ rfl
    have e2 : DataW.trod enc Tryz.prog W base sp held n 2 (([u0, u1, u2, u3, u4, u5, u6].drop 2).take (Tryz.prog.cellsOf 2)) = xs[2]? := hf 2 _ rfl
    have e3 : DataW.trod enc Tryz.prog W base sp held n 2 (([u0, u1, u2, u3, u4, u5, u6].drop 3).take (Tryz.prog.cellsOf 2)) = xs[3]? := hf 3 _ rfl
    have e4 : DataW.trod enc Tryz.prog W base sp held n 54 (([u0, u1, u2, u3, u4, u5, u6].drop 4).take (Tryz.prog.cellsOf 54)) = xs[4]? := hf 4 _ rfl
    have hx5 : xs.length = 5 := hxl
    rw [cellsS, List.getElem?_eq_getElem (by omega)] at e0
    rw [cellsI, List.getElem?_eq_getElem (by omega)] at e1
    rw [cellsI64, List.getElem?_eq_getElem (by omega)] at e2 e3
    rw [cellsVal, List.getElem?_eq_getElem (by omega)] at e4
    obtain ⟨s, h0, _, hs⟩ := DataW.trod_string Tryz.underlying9 e0
    obtain ⟨k, h1, _, _⟩ := DataW.trod_int Tryz.underlying3 e1
    obtain ⟨lo, h2, _, _⟩ := DataW.trod_int Tryz.underlying2 e2
    obtain ⟨hi, h3, _, _⟩ := DataW.trod_int Tryz.underlying2 e3
    obtain ⟨a, b, c, h4, h5, h6⟩ := int3 (u0 := u4) (u1 := u5) (u2 := u6) e4
    simp at h0 h1 h2 h3
    refine ⟨⟨s.data.toList, k, lo, hi, a, b, c⟩, by rw [h0, h1, h2, h3, h4, h5, h6]; rfl, ?_⟩
    show s.data.toList.length ≤ _
    rw [sz0]; exact hs
end

theorem rows_of {α : Type} (f : α → List Value) (q : α → Prop) : ∀ rows : List (List Value), (∀ r ∈ rows, ∃ a, r = f a ∧ q a) → ∃ l : List α, rows = l.map f ∧ ∀ a ∈ l, q a
  | [], _ => ⟨[], rfl, fun _ h => by cases h⟩
  | r :: rs, h => by
    obtain ⟨a, ha, hq⟩ := h r (by simp)
    obtain ⟨l, hl, hql⟩ := rows_of f q rs (fun r hr => h r (by simp [hr]))
    refine ⟨a :: l, by rw [ha, hl]; rfl, fun b hb => ?_⟩
    rcases List.mem_cons.1 hb with rfl | hb
    · exact hq
    · exact hql b hb
theorem inn_rdI {w : World} {v : Value} {cs : List CM} (h : Inn w 3 v cs.length (flat cs)) : RdI w v cs := by
  rcases h with ⟨rfl, h1, _⟩ | ⟨ad, c, rfl, _, h⟩
  · exact Or.inl ⟨rfl, List.eq_nil_of_length_eq_zero h1⟩
  · refine Or.inr ⟨ad, c, rfl, some ad, c, rfl, fun i hi => ?_⟩
    obtain ⟨b, o, rfl, _, hc⟩ := h (by omega)
    obtain ⟨f0, f1, f2⟩ := flat_at hi
    refine ⟨b, o, rfl, hc _ _ f0, ?_, ?_⟩
    · rw [Nat.add_assoc]; exact hc _ _ f1
    · rw [Nat.add_assoc]; exact hc _ _ f2

section
variable {H : Type} {enc : TypeId × Value → H} {W : World} {n : Nat} {v : Value} {y : DataW H × List MemPlace}
theorem cells_in (h : DataW.trod enc Tryz.prog W 0 (fun _ => true) true n 57 [v] = some y) :
    ∃ cs, RdI W v cs ∧ Names cs ∧ ((y.1 = .nil ∧ cs = []) ∨ ∃ es sp, y.1 = .slice es sp ∧ cs.length = es.length) ∧ ∀ A m c, v = .slice A m c → m ≤ c := by
  obtain ⟨rows, h1, h2, h3, h4⟩ := open_inn Tryz.underlying57 cellsCell (by decide) h
  obtain ⟨cs, rfl, hq⟩ := rows_of cellV (fun c : CM => c.nm.length ≤ 9223372036854775807) rows (fun r hr => by
    obtain ⟨_, k, x, hx⟩ := h2 r hr
    obtain ⟨o, a, s, rfl, hs⟩ := cell_struct hx
    exact ⟨⟨o, a, s.data.toList⟩, rfl, by show s.data.toList.length ≤ _; rw [sz0]; unfold maxLen at hs; exact hs⟩)
  have hf : (cs.map cellV).flatten = flat cs := by simp [flat, List.flatMap_def]
  rw [hf, List.length_map] at h1
  refine ⟨cs, inn_rdI h1, hq, ?_, h4⟩
  rcases h3 with ⟨e1, e2⟩ | ⟨es, sp, e1, e2⟩
  · exact Or.inl ⟨e1, List.map_eq_nil_iff.1 e2⟩
  · exact Or.inr ⟨es, sp, e1, by rw [← e2, List.length_map]⟩
theorem vars_in (h : DataW.trod enc Tryz.prog W 0 (fun _ => true) true n 38 [v] = some y) :
    ∃ vs, RdV W v vs ∧ (∀ x ∈ vs, x.nm.length ≤ 9223372036854775807) ∧ ((y.1 = .nil ∧ vs = []) ∨ ∃ es sp, y.1 = .slice es sp ∧ vs.length = es.length) ∧ ∀ A m c, v = .slice A m c → m ≤ c := by
  obtain ⟨rows, h1, h2, h3, h4⟩ := open_inn Tryz.underlying38 cellsVar (by decide) h
  obtain ⟨vs, rfl, hq⟩ := rows_of varV (fun x : VM => x.nm.length ≤ 9223372036854775807) rows (fun r hr => by
    obtain ⟨_, k, x, hx⟩ := h2 r hr
    obtain ⟨v, rfl, hs⟩ := var_struct hx
    exact ⟨v, rfl, by unfold maxLen at hs; exact hs⟩)
  have hf : (vs.map varV).flatten = flatV vs := by simp [flatV, List.flatMap_def]
  rw [hf, List.length_map] at h1
  refine ⟨vs, h1, hq, ?_, h4⟩
  rcases h3 with ⟨e1, e2⟩ | ⟨es, sp, e1, e2⟩
  · exact Or.inl ⟨e1, List.map_eq_nil_iff.1 e2⟩
  · exact Or.inr ⟨es, sp, e1, by rw [← e2, List.length_map]⟩
end

end Go.Proofs.YtjgfkmakfdepcaaGreatDoor
namespace Go.Proofs.YtjgfkmakfdepcaaGreatDoor
open Go.RowKit

/-- the place of the first that p holds of; -1: of none -/
def ixP {α : Type} (p : α → Bool) : List α → Nat → Int
  | [], _ => -1
  | x :: r, i => if p x = true then i else ixP p r (i + 1)
theorem ix_step {α : Type} {p : α → Bool} {l : List α} {k : Nat} (hk : k < l.length) : ixP p (l.drop k) k = if p l[k] = true then (k : Int) else ixP p (l.drop (k + 1)) (k + 1) := by
  rw [List.drop_eq_getElem_cons hk]; rfl
theorem ix_end {α : Type} {p : α → Bool} {l : List α} {k : Nat} (hk : ¬ k < l.length) : ixP p (l.drop k) k = -1 := by
  rw [List.drop_of_length_le (by omega)]; rfl
theorem ix_find {α : Type} (p : α → Bool) : ∀ (l : List α) (i : Nat), (ixP p l i = -1 ∧ l.find? p = none) ∨ ∃ j, ∃ h : j < l.length, ixP p l i = ((i + j : Nat) : Int) ∧ l.find? p = some l[j]
  | [], i => Or.inl ⟨rfl, rfl⟩
  | x :: r, i => by
    by_cases hx : p x = true
    · refine Or.inr ⟨0, by simp, ?_, ?_⟩
      · unfold ixP; rw [if_pos hx]; rfl
      · simp [hx]
    · have e1 : ixP p (x :: r) i = ixP p r (i + 1) := if_neg hx
      have e2 : (x :: r).find? p = r.find? p := by simp [hx]
      rw [e1, e2]
      rcases ix_find p r (i + 1) with h | ⟨j, hj, h1, h2⟩
      · exact Or.inl h
      · exact Or.inr ⟨j + 1, by simp; omega, by rw [h1]; congr 1; omega, by rw [h2]; rfl⟩
def isN (n : List UInt8) (x : List UInt8) : Bool := decide (x = n)
theorem ix_mem (l : List (List UInt8)) (n : List UInt8) : decide (0 ≤ ixP (isN n) l 0) = decide (n ∈ l) := by
  rcases ix_find (isN n) l 0 with ⟨h1, h2⟩ | ⟨j, hj, h1, h2⟩
  · rw [h1]
    have : n ∉ l := by
      intro hm
      have := List.find?_eq_none.1 h2 n hm
      simp [isN] at this
    simp [this]
  · rw [h1]
    have := List.find?_some h2
    simp [isN] at this
    have hm : n ∈ l := by rw [← this]; exact List.getElem_mem _
    simp [hm]
theorem ix_range {α : Type} (p : α → Bool) (l : List α) : ixP p l 0 = -1 ∨ (0 ≤ ixP p l 0 ∧ ixP p l 0 < l.length) := by
  rcases ix_find p l 0 with ⟨h1, h2⟩ | ⟨j, hj, h1, h2⟩
  · exact Or.inl h1
  · right; rw [h1]; omega

/-- a string's bytes, as the walk compares them -/
theorem str_ne {X Y : ByteArray} (h : X.data.toList ≠ Y.data.toList) : (X.toList == Y.toList) = false := by
  rw [Lib.toList_data, Lib.toList_data]; exact beq_eq_false_iff_ne.2 h
theorem str_eq {X Y : ByteArray} (h : X.data.toList = Y.data.toList) : X = Y := by apply ByteArray.ext; exact Array.toList_inj.1 h
theorem bstr_some (l : List UInt8) : ∃ X : ByteArray, bstr l = .string X ∧ X.data.toList = l := ⟨⟨l.toArray⟩, rfl, rfl⟩

set_option maxHeartbeats 1000000 in
theorem strIndex_any (v : Value) (xs : List (List UInt8)) (N : ByteArray) (w : World) (hR : RdW w v xs) (hl : xs.length ≤ 9223372036854775807) :
    Calls Tryz.prog 167 #[v, .string N] w fun e w' => e = .returned (.int .i64 (ixP (isN N.data.toList) xs 0)) ∧ w = w' := by
  obtain ⟨A, c, rfl⟩ := hR.form
  have HR := Lib.hid hR; clear hR
  obtain ⟨n, hn⟩ : ∃ n, xs.length = n := ⟨_, rfl⟩
  have HN := Lib.hid hn
  rw [hn] at hl HR ⊢
  clear hn
  go_enter Tryz.func167, Tryz.ntmps167
  go_wp2
  go_loop [4, 5, 8] (fun x4 x5 i => x4 = .int .i64 0 ∧ (x5 = .int .i64 0 ∨ True) ∧ ∃ k : Nat, k ≤ n ∧ i = .int .i64 k ∧ Hid (ixP (isN N.data.toList) (xs.drop k) k = ixP (isN N.data.toList) xs 0)) (fun _ _ i => n - (intOf i).toNat)
  case atStart => exact ⟨rfl, Or.inr trivial, 0, by omega, rfl, rfl⟩
  case round =>
    obtain ⟨rfl, _, k, hk, rfl, HI⟩ := hrel
    by_cases hkn : k < n
    · obtain ⟨b, o, rfl, _, hc⟩ := HR.out.at_ (k := k) (by rw [HN.out]; exact hkn)
      have hst := ix_step (p := isN N.data.toList) (l := xs) (k := k) (by rw [HN.out]; exact hkn)
      rw [HI.out] at hst
      obtain ⟨X, hX, hXl⟩ := bstr_some (xs[k]'(by rw [HN.out]; exact hkn))
      rw [hX] at hc
      rw [← hXl] at hst
      clear hX hXl
      by_cases he : X.data.toList = N.data.toList
      · obtain rfl := str_eq he
        have hr : ixP (isN X.data.toList) xs 0 = k := by rw [hst, if_pos (by simp [isN])]
        have HRR := Lib.hid hr
        clear hst hr he HI
        go_wp2
        go_ret
        exact ⟨ret_int HRR.out.symm, rfl⟩
      · have hr : ixP (isN N.data.toList) (xs.drop (k + 1)) (k + 1) = ixP (isN N.data.toList) xs 0 := by rw [hst, if_neg (by simp [isN, he])]
        have HRR := Lib.hid hr
        have hne := str_ne he
        have hne' := str_ne (Ne.symm he)
        clear hst hr he HI
        go_wp2
        go_round
        case rel => exact ⟨rfl, Or.inr trivial, k + 1, by omega, by go_num, HRR.out⟩
        case measure => simp [intOf]; omega
    · have hr : ixP (isN N.data.toList) xs 0 = -1 := by rw [← HI.out, ix_end (by rw [HN.out]; exact hkn)]
      have HRR := Lib.hid hr
      clear hr HI
      go_wp2
      go_ret
      exact ⟨ret_int HRR.out.symm, rfl⟩

theorem strContains_any (v : Value) (xs : List (List UInt8)) (N : ByteArray) (w : World) (hR : RdW w v xs) (hl : xs.length ≤ 9223372036854775807) :
    Calls Tryz.prog 144 #[v, .string N] w fun e w' => e = .returned (.bool (decide (N.data.toList ∈ xs))) ∧ w = w' := by
  have HI := Lib.hid (strIndex_any v xs N w hR hl)
  have HM := Lib.hid (ix_mem xs N.data.toList)
  clear hR
  go_enter Tryz.func144, Tryz.ntmps144
  go_wp2_with fail
  refine HI.out.mono ?_
  rintro e w1 ⟨rfl, rfl⟩
  go_wp2
  go_ret
  exact ⟨ret_bool HM.out, rfl⟩

set_option maxHeartbeats 1000000 in
theorem refHas_any (v : Value) (xs : List (List UInt8)) (N : ByteArray) (w : World) (hR : RdW w v xs) (hl : xs.length ≤ 9223372036854775807) :
    Calls Tryz.prog 100 #[v, .string N] w fun e w' => e = .returned (.bool (decide (N.data.toList ∈ xs))) ∧ w = w' := by
  obtain ⟨A, c, rfl⟩ := hR.form
  have HR := Lib.hid hR; clear hR
  have HM := Lib.hid (ix_mem xs N.data.toList)
  obtain ⟨n, hn⟩ : ∃ n, xs.length = n := ⟨_, rfl⟩
  have HN := Lib.hid hn
  rw [hn] at hl HR ⊢
  clear hn
  go_enter Tryz.func100, Tryz.ntmps100
  go_wp2
  go_loop [4, 5] (fun x4 i => x4 = .bool false ∧ ∃ k : Nat, k ≤ n ∧ i = .int .i64 k ∧ Hid (ixP (isN N.data.toList) (xs.drop k) k = ixP (isN N.data.toList) xs 0)) (fun _ i => n - (intOf i).toNat)
  case atStart => exact ⟨rfl, 0, by omega, rfl, rfl⟩
  case round =>
    obtain ⟨rfl, k, hk, rfl, HI⟩ := hrel
    by_cases hkn : k < n
    · obtain ⟨b, o, rfl, _, hc⟩ := HR.out.at_ (k := k) (by rw [HN.out]; exact hkn)
      have hst := ix_step (p := isN N.data.toList) (l := xs) (k := k) (by rw [HN.out]; exact hkn)
      rw [HI.out] at hst
      obtain ⟨X, hX, hXl⟩ := bstr_some (xs[k]'(by rw [HN.out]; exact hkn))
      rw [hX] at hc
      rw [← hXl] at hst
      clear hX hXl
      by_cases he : X.data.toList = N.data.toList
      · obtain rfl := str_eq he
        have hr : decide (X.data.toList ∈ xs) = true := by rw [← HM.out, hst, if_pos (by simp [isN])]; simp
        have HRR := Lib.hid hr
        clear hst hr he HI
        go_wp2
        go_ret
        exact ⟨ret_bool HRR.out.symm, rfl⟩
      · have hr : ixP (isN N.data.toList) (xs.drop (k + 1)) (k + 1) = ixP (isN N.data.toList) xs 0 := by rw [hst, if_neg (by simp [isN, he])]
        have HRR := Lib.hid hr
        have hne := str_ne he
        have hne' := str_ne (Ne.symm he)
        clear hst hr he HI
        go_wp2
        go_round
        case rel => exact ⟨rfl, k + 1, by omega, by go_num, HRR.out⟩
        case measure => simp [intOf]; omega
    · have hr : decide (N.data.toList ∈ xs) = false := by rw [← HM.out, ← HI.out, ix_end (by rw [HN.out]; exact hkn)]; rfl
      have HRR := Lib.hid hr
      clear hr HI
      go_wp2
      go_ret
      exact ⟨ret_bool HRR.out.symm, rfl⟩
end Go.Proofs.YtjgfkmakfdepcaaGreatDoor
