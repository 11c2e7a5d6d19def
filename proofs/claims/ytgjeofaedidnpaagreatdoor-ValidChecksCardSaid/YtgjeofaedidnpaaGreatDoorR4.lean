/- Own texts, joined: F2, F7, Ox, Ka, Kb. -/
import Derived.Test.YtgjeofaedidnpaaGreatDoorR1
import Derived.Test.YtgjeofaedidnpaaGreatDoorR2
import Derived.Test.YtgjeofaedidnpaaGreatDoorR3
import Derived.Laws.AppendOwnNone
namespace Go.Proofs.YtgjeofaedidnpaaGreatDoor
inductive T where
 | leaf (c : CM)
 | un (o : Int) (t : T)
 | bin (o : Int) (l r : T)
def post : T -> List CM
 | .leaf c => [c]
 | .un o t => post t ++ [opC o]
 | .bin o l r => post l ++ post r ++ [opC o]
def OkT : T -> Prop
 | .leaf c => formedB c = true /\ operN c.op = 0
 | .un o t => 7 <= o /\ o <= 10 /\ OkT t
 | .bin o l r => 11 <= o /\ o <= 23 /\ OkT l /\ OkT r
theorem operN_un {o : Int} (h : 7 <= o /\ o <= 10) : operN o = 1 := by unfold operN; rw [if_neg (by omega), if_pos h]
theorem operN_bin {o : Int} (h : 11 <= o /\ o <= 23) : operN o = 2 := by unfold operN; rw [if_neg (by omega), if_neg (by omega)]
theorem formed_opC {o : Int} (h : 7 <= o /\ o <= 23) : formedB (opC o) = true := by
 unfold formedB opC;simp only;rw [if_neg (by omega), if_neg (by omega), if_neg (by omega), decide_eq_true (show 1 <= o by omega), decide_eq_true (show o <= 23 by omega)]; rfl
theorem opC_of {c : CM} (h : formedB c = true) (ho : 1 <= operN c.op) : c = opC c.op /\ 7 <= c.op := by
 have h7 : 7 <= c.op := by
  have := formed_op h;unfold operN at ho;split at ho
  ·omega
  ·omega
 refine ⟨?_, h7⟩;unfold formedB at h;rw [if_neg (by omega), if_neg (by omega), if_neg (by omega)] at h;simp at h;cases c; simp at h; simp [opC, h]
theorem run_post {t : T} (h : OkT t) (r : List CM) (v : Nat) : runB (post t ++ r) v = runB r (v + 1) := by
 induction t generalizing r v with
 | leaf c =>
  show (if formedB c = true /\ operN c.op <= v then runB r (v + 1 - operN c.op) else none) = _;rw [h.2, if_pos ⟨h.1, Nat.zero_le _⟩]; rfl
 | un o t ih =>
  show runB (post t ++ [opC o] ++ r) v = _;rw [List.append_assoc, ih h.2.2];show (if formedB (opC o) = true /\ operN o <= v + 1 then runB r (v + 1 + 1 - operN o) else none) = _;rw [operN_un ⟨h.1, h.2.1⟩, if_pos ⟨formed_opC ⟨h.1, by have := h.2.1; omega⟩, by omega⟩]; rfl
 | bin o l r' ihl ihr =>
  show runB (post l ++ post r' ++ [opC o] ++ r) v = _;rw [List.append_assoc, List.append_assoc, ihl h.2.2.1, ihr h.2.2.2];show (if formedB (opC o) = true /\ operN o <= v + 1 + 1 then runB r (v + 1 + 1 + 1 - operN o) else none) = _;rw [operN_bin ⟨h.1, h.2.1⟩, if_pos ⟨formed_opC ⟨by have := h.1; omega, h.2.1⟩, by omega⟩]; rfl
def OkAll (ts : List T) : Prop := ∀ t ∈ ts, OkT t
theorem trees_of : ∀ (cs : List CM) (ts : List T) (n : Nat), OkAll ts -> runB cs ts.length = some n -> ∃ ts', OkAll ts' /\ ts'.flatMap post = ts.flatMap post ++ cs /\ ts'.length = n := by
 intro cs
 induction cs with
 | nil => intro ts n ho hr; exact ⟨ts, ho, by simp, by simpa [runB] using hr⟩
 | cons c r ih =>
  intro ts n ho hr;unfold runB at hr;split at hr
  ·rename_i hc
   obtain ⟨hf, hle⟩ := hc;have h2 := operN_le c.op;have hcs : operN c.op = 0 \/ operN c.op = 1 \/ operN c.op = 2 := by omega
   rcases hcs with h0 | h0 | h0
   ·rw [h0] at hr;obtain ⟨ts', h1, h2, h3⟩ := ih (ts ++ [.leaf c]) n (by
     intro t ht;rcases List.mem_append.1 ht with h | h
     ·exact ho t h
     ·simp at h; subst h; exact ⟨hf, h0⟩) (by simpa using hr)
    exact ⟨ts', h1, by rw [h2]; simp [post], h3⟩
   ·obtain ⟨hc1, hc7⟩ := opC_of hf (by omega);rcases List.eq_nil_or_concat ts with rfl | ⟨ts0, a, rfl⟩
    ·simp at hle; omega
    ·rw [List.concat_eq_append] at *
     have h10 : c.op <= 10 := by
      unfold operN at h0;split at h0
      ·omega
      ·split at h0 <;> omega
     obtain ⟨ts', h1, h2, h3⟩ := ih (ts0 ++ [.un c.op a]) n (by
      intro t ht;rcases List.mem_append.1 ht with h | h
      ·exact ho t (List.mem_append_left _ h)
      ·simp at h; subst h; exact ⟨hc7, h10, ho a (by simp)⟩) (by rw [h0] at hr; simpa using hr)
     refine ⟨ts', h1, ?_, h3⟩;rw [h2];simp only [List.flatMap_append, List.flatMap_cons, List.flatMap_nil, List.append_nil, List.append_assoc, post];rw [<- hc1]; rfl
   ·obtain ⟨hc1, hc7⟩ := opC_of hf (by omega);rcases List.eq_nil_or_concat ts with rfl | ⟨ts1, b, rfl⟩
    ·simp at hle; omega
    ·rw [List.concat_eq_append] at *
     rcases List.eq_nil_or_concat ts1 with rfl | ⟨ts0, a, rfl⟩
     ·simp at hle; omega
     ·rw [List.concat_eq_append] at *
      have h10 : 11 <= c.op := by
       unfold operN at h0;split at h0
       ·omega
       ·split at h0 <;> omega
      obtain ⟨ts', h1, h2, h3⟩ := ih (ts0 ++ [.bin c.op a b]) n (by
       intro t ht;rcases List.mem_append.1 ht with h | h
       ·exact ho t (List.mem_append_left _ (List.mem_append_left _ h))
       ·simp at h; subst h; exact ⟨h10, (formed_op hf).2, ho a (by simp), ho b (by simp)⟩) (by rw [h0] at hr; simpa using hr)
      refine ⟨ts', h1, ?_, h3⟩;rw [h2];simp only [List.flatMap_append, List.flatMap_cons, List.flatMap_nil, List.append_nil, List.append_assoc, post];rw [<- hc1]; rfl
  ·cases hr
theorem right_tree {cs : List CM} (h : rightB cs = true) : ∃ t, OkT t /\ post t = cs := by
 unfold rightB at h;simp at h;obtain ⟨ts, h1, h2, h3⟩ := trees_of cs [] 1 (by intro t ht; cases ht) h.2
 match ts, h3 with
 | [t], _ => exact ⟨t, h1 t (by simp), by simpa using h2⟩
theorem tree_right {t : T} (h : OkT t) (hl : (post t).length <= 32) : rightB (post t) = true := by
 unfold rightB;have := run_post h [] 0;rw [List.append_nil] at this;rw [this, decide_eq_true hl]; rfl
end Go.Proofs.YtgjeofaedidnpaaGreatDoor
namespace Go.Proofs.YtgjeofaedidnpaaGreatDoor
open Go.RowKit
def Names (cs : List CM) : Prop := ∀ c ∈ cs, c.nm.length <= 9223372036854775807
set_option maxRecDepth 100000 in
set_option maxHeartbeats 2000000 in
theorem refRight_any (v : Value) (cs : List CM) (w : World) (hR : RdC w v cs) (hl : cs.length <= 4611686018427387904) (hN : Names cs) :
 Calls Tryz.prog 99 #[v] w fun e w' => e = .returned (.bool (rightB cs)) /\ Below w.heap.size w w' := by
 obtain ⟨A, c, rfl, hr⟩ := hR;have HR := Lib.hid hr; clear hr;have HNM := Lib.hid hN; clear hN;obtain ⟨n, hn⟩ : ∃ n, cs.length = n := ⟨_, rfl⟩
 have HN := Lib.hid hn;rw [hn] at hl ⊢;clear hn;have HNO : Hid (runB cs 0 = none -> rightB cs = false) := by
  intro h;unfold rightB; rw [h]; simp
 have HLO : Hid (32 < n -> rightB cs = false) := by
  intro h;unfold rightB; rw [HN.out, decide_eq_false (by omega)]; rfl
 have HYE : Hid (∀ vs, n <= 32 -> runB cs 0 = some vs -> rightB cs = ((vs : Int) == 1)) := by
  intro vs h1 h2;unfold rightB; rw [HN.out, decide_eq_true h1, h2];by_cases h : vs = 1
  ·subst h; rfl
  ·rw [int_ne (show (vs : Int) ≠ 1 by omega)]; simp [h]
 go_enter Tryz.func99, Tryz.ntmps99
 go_wp2
 go_loopw [2, 3, 4] (fun x2 vv i wr => x2 = .bool false /\ ∃ k vs : Nat, k <= n /\ k <= 32 /\ vs <= k /\ i = .int .i64 k /\ vv = .int .i64 vs /\ Hid (runB (cs.drop k) vs = runB cs 0) /\ Below w.heap.size w wr) (fun _ _ i _ => n - (intOf i).toNat)
 case atStart => exact ⟨rfl, 0, 0, by omega, by omega, by omega, rfl, rfl, rfl, Below.refl _ _⟩
 case round =>
  obtain ⟨rfl, k, vs, hk, hk32, hvs, rfl, rfl, HB, hb⟩ := hrel;have HBL := Lib.hid hb;by_cases hkn : k < n
  ·obtain ⟨b, o, rfl, d0, d1, d2⟩ := HR.out k (by rw [HN.out]; exact hkn);have hrun := run_at (cs := cs) (k := k) (v := vs) (by rw [HN.out]; exact hkn);rw [HB.out] at hrun;have hnm := HNM.out (cs[k]'(by rw [HN.out]; exact hkn)) (List.getElem_mem _);obtain ⟨cc, hcc⟩ : ∃ cc, cs[k]'(by rw [HN.out]; exact hkn) = cc := ⟨_, rfl⟩
   rw [hcc] at d0 d1 d2 hrun hnm;have e0 := (hb.cell (cell_lt d0)).trans d0;have e1 := (hb.cell (cell_lt d1)).trans d1;have e2 := (hb.cell (cell_lt d2)).trans d2;have hon := operN_le cc.op;obtain ⟨X, hX⟩ : ∃ X : ByteArray, bstr cc.nm = .string X := ⟨_, rfl⟩
   have hfm := fun W => refOperands_any cc W hnm
   rw [hX] at e2 hfm;have HFM := Lib.hid hfm;have HRUN := Lib.hid hrun;clear d0 d1 d2 hcc hrun hb hX hfm hnm;cases hf : formedB cc
   ·have HFF := Lib.hid (opsR_no hf);have HE := Lib.hid (HNO.out (by rw [HRUN.out, hf, if_neg (by simp)]));clear hf
    go_wp2_with fail
    refine (HFM.out _).mono ?_;rintro e w2 ⟨rfl, hb2⟩;have HB2 := Lib.hid hb2; clear hb2;rw [HFF.out];go_wp2;go_ret;exact ⟨ret_bool HE.out.symm, HBL.out.trans (HB2.out.mono HBL.out.size)⟩
   ·have HFF := Lib.hid (opsR_yes hf);by_cases hov : operN cc.op <= vs
    ·have hov' : decide ((vs : Int) < (operN cc.op : Int)) = false := decide_eq_false (by omega);have hov2 : decide (vs < operN cc.op) = false := decide_eq_false (by omega);have hneg : decide ((operN cc.op : Int) < 0) = false := decide_eq_false (by omega);by_cases h32 : k < 32
     ·have hE : runB (cs.drop (k + 1)) (vs + 1 - operN cc.op) = runB cs 0 := by rw [HRUN.out, hf, if_pos ⟨rfl, hov⟩]
      have HE := Lib.hid hE;clear hE hf;have h32' : decide ((32 : Int) <= (k : Int)) = false := decide_eq_false (by omega);have h32'' : decide (32 <= k) = false := decide_eq_false (by omega)
      go_wp2_with fail
      refine (HFM.out _).mono ?_;rintro e w2 ⟨rfl, hb2⟩;have HB2 := Lib.hid hb2; clear hb2;rw [HFF.out];go_wp2
      go_roundw
      case rel => exact ⟨rfl, k + 1, vs + 1 - operN cc.op, by omega, by omega, by omega, by go_num, by congr 1; omega, HE, HBL.out.trans (HB2.out.mono HBL.out.size)⟩
      case measure => simp [intOf]; omega
     ·have HE := Lib.hid (HLO.out (by omega));have h32' : (32 : Int) <= (k : Int) := by omega
      clear hf h32
      go_wp2_with fail
      refine (HFM.out _).mono ?_;rintro e w2 ⟨rfl, hb2⟩;have HB2 := Lib.hid hb2; clear hb2;rw [HFF.out];go_wp2;go_ret;exact ⟨ret_bool HE.out.symm, HBL.out.trans (HB2.out.mono HBL.out.size)⟩
    ·have HE := Lib.hid (HNO.out (by rw [HRUN.out, hf, if_neg (by simp; omega)]));have hov' : (vs : Int) < (operN cc.op : Int) := by omega
     have hneg : decide ((operN cc.op : Int) < 0) = false := decide_eq_false (by omega);clear hf
     go_wp2_with fail
     refine (HFM.out _).mono ?_;rintro e w2 ⟨rfl, hb2⟩;have HB2 := Lib.hid hb2; clear hb2;rw [HFF.out];go_wp2;go_ret;exact ⟨ret_bool HE.out.symm, HBL.out.trans (HB2.out.mono HBL.out.size)⟩
  ·have hE : runB cs 0 = some vs := by
    rw [<- HB.out, List.drop_of_length_le (by rw [HN.out]; omega)]; rfl
   have HE := Lib.hid (HYE.out vs (by omega) hE);clear hE;go_wp2;go_ret;exact ⟨ret_bool HE.out.symm, HBL.out⟩
end Go.Proofs.YtgjeofaedidnpaaGreatDoor
namespace Go.Proofs.YtgjeofaedidnpaaGreatDoor
open Go Go.RowKit
def Inn (w : World) (size : Nat) (v : Value) (n : Nat) (xs : List Value) : Prop :=
 (v = .slice none 0 0 /\ n = 0 /\ xs = []) \/ ∃ ad c, v = .slice (some ad) n c /\ xs.length = n * size /\ (0 < n -> ∃ b o, ad = ⟨b, o, none⟩ /\ b < w.heap.size /\ ∀ j u, xs[j]? = some u -> w.cell? ⟨b, o + j, none⟩ = some u)
theorem Inn.same {w w' : World} {size : Nat} {v : Value} {n : Nat} {xs : List Value} (h : Inn w size v n xs) (hs : w.heap.size <= w'.heap.size) (hb : ∀ k, k < w.heap.size -> w'.heap[k]? = w.heap[k]?) : Inn w' size v n xs := by
 rcases h with h | ⟨ad, c, e, hl, h⟩
 ·exact Or.inl h
 ·refine Or.inr ⟨ad, c, e, hl, fun hn => ?_⟩;obtain ⟨b, o, e, hlt, hc⟩ := h hn;refine ⟨b, o, e, by omega, fun j u hu => ?_⟩;rw [World.cell?_of_block (w := w) (hb _ hlt)];exact hc j u hu
theorem Inn.below {w w' : World} {size : Nat} {v : Value} {n : Nat} {xs : List Value} (h : Inn w size v n xs) (hb : Below w.heap.size w w') : Inn w' size v n xs := h.same hb.size hb.block
theorem Inn.form {w : World} {size : Nat} {v : Value} {n : Nat} {xs : List Value} (h : Inn w size v n xs) : ∃ A c, v = .slice A n c := by
 rcases h with ⟨rfl, rfl, _⟩ | ⟨ad, c, rfl, _⟩
 ·exact ⟨_, _, rfl⟩
 ·exact ⟨_, _, rfl⟩
theorem Inn.at_ {w : World} {size : Nat} {A : Option Addr} {m c : Nat} {n : Nat} {xs : List Value} (h : Inn w size (.slice A m c) n xs) {k : Nat} (hk : k < n) :
 ∃ b o, A = some ⟨b, o, none⟩ /\ b < w.heap.size /\ ∀ j u, xs[k * size + j]? = some u -> w.cell? ⟨b, o + k * size + j, none⟩ = some u := by
 rcases h with ⟨_, rfl, _⟩ | ⟨ad, c', e, _, h⟩
 ·omega
 ·simp only [Value.slice.injEq] at e;obtain ⟨b, o, rfl, hlt, hc⟩ := h (by omega);exact ⟨b, o, e.1, hlt, fun j u hu => by rw [Nat.add_assoc]; exact hc _ u hu⟩
theorem Inn.of_own {w : World} {B : Nat} {e : TypeId} {size n : Nat} {v : Value} {xs : List Value} (h : w.ownsRow B e size v n xs) : Inn w size v n xs := by
 rcases h.2 with ⟨rfl, rfl⟩ | ⟨g, cap, cur, rfl, _⟩
 ·exact Or.inl ⟨rfl, rfl, by have := h.1; simp at this; exact this⟩
 ·have hlt := (h.lt g rfl).2;exact Or.inr ⟨⟨g, 0, none⟩, cap, rfl, h.1, fun _ => ⟨g, 0, rfl, hlt, fun j u hu => by
   have := h.cells (g := g) rfl j u hu;rw [add_lit'] at this; exact this⟩⟩
theorem Inn.nil (w : World) (size : Nat) : Inn w size (.slice none 0 0) 0 [] := Or.inl ⟨rfl, rfl, rfl⟩
namespace Ow
theorem walk_cons {P : Program} {ops : Array Oper} {Q : Exit -> Act -> World -> Prop} {md : Region.Mode} {Rs : List Rel} {owns : List Bool} {eats : List (Option Nat)} {base : Nat} {w0 : World} {l r : List Oper} {o : Oper} {i : Nat} {a : Act} {vs : List Value} {f : Value -> Act} {us : Value -> List Value}
 (hl : l = o :: r) (h : Duty P ops md Rs owns eats base w0 i o a vs) (hf : ∀ v, a.put o.dst v = f v) (hu : ∀ v, vs ++ [v] = us v) (hr : ∀ v, Walk P ops Q md Rs owns eats base w0 r (i + 1) (f v) (us v)) : Walk P ops Q md Rs owns eats base w0 l i a vs := by
 subst hl; exact ⟨h, fun v => by rw [hf, hu]; exact hr v⟩
theorem walk_q {P : Program} {ops : Array Oper} {Q : Exit -> Act -> World -> Prop} {md : Region.Mode} {Rs : List Rel} {owns : List Bool} {eats : List (Option Nat)} {base : Nat} {w0 : World} {l r : List Oper} {o : Oper} {i : Nat} {a : Act} {vs : List Value} {f : Value -> Act} {us : Value -> List Value}
 (h : Duty P ops md Rs owns eats base w0 i o a vs) (hr : ∀ v, Walk P ops Q md Rs owns eats base w0 r (i + 1) (f v) (us v))
 (hl : l = o :: r := by exact rfl) (hf : ∀ v, a.put o.dst v = f v := by intro v; simp only [Act.put, List.setIfInBounds_toArray, List.set_cons_succ, List.set_cons_zero]; exact rfl) (hu : ∀ v, vs ++ [v] = us v := by intro v; simp only [List.cons_append, List.nil_append]; exact rfl) : Walk P ops Q md Rs owns eats base w0 l i a vs :=
 walk_cons hl h hf hu hr
theorem walk_nil {P : Program} {ops : Array Oper} {Q : Exit -> Act -> World -> Prop} {md : Region.Mode} {Rs : List Rel} {owns : List Bool} {eats : List (Option Nat)} {base : Nat} {w0 : World} {l : List Oper} {i : Nat} {a : Act} {vs : List Value}
 (hl : l = []) (h : ∀ w, Below base w0 w -> (∀ j, (Nat.blt j ops.size && !eatenB eats j) = true -> rel Rs j (vs.getD j undef) w) -> Q .normal a w) : Walk P ops Q md Rs owns eats base w0 l i a vs := by
 subst hl;refine fun w hb hd => h w hb fun j hj => ?_
 rw [Bool.and_eq_true] at hj;exact hd j (by simpa using hj.1) (by simpa using hj.2)
section
variable {Rs : List Rel} {owns : List Bool} {eats : List (Option Nat)} {base : Nat} {w w' : World} {vs : List Value} {i : Nat} {v : Value}
def KeepsL (base : Nat) : List Bool -> List Rel -> Prop
 | o :: os, R :: rs => Keeps1 base o R /\ KeepsL base os rs
 | [], R :: rs => Keeps1 base false R /\ KeepsL base [] rs
 | _, [] => True
theorem KeepsL.all : ∀ (os : List Bool) (rs : List Rel), KeepsL base os rs -> ∀ i, Keeps1 base (os.getD i false) (rel rs i)
 | o :: os, R :: rs, h, 0 => h.1
 | o :: os, R :: rs, h, i + 1 => KeepsL.all os rs h.2 i
 | [], R :: rs, h, 0 => h.1
 | [], R :: rs, h, i + 1 => KeepsL.all [] rs h.2 i
 | [], [], _, i => fun _ _ _ _ h _ _ _ => by cases i <;> exact h
 | _ :: _, [], _, i => fun _ _ _ _ _ _ _ _ => by simp [rel]
theorem keeps_eq (x : Value) (o : Bool) : Keeps1 base o (eqR x) := fun _ _ _ _ h _ _ _ => h
theorem good_same (_h1 : eatsAt eats i = none) (h2 : owns.getD i false = false) (h3 : rel Rs i v w) : Good Rs owns base (rowV eats vs i) i w v w :=
 ⟨h3, ⟨rfl, rfl, rfl, Nat.le_refl _, fun _ _ _ => rfl⟩, fun h => by rw [h2] at h; cases h⟩
theorem good_below (_h1 : eatsAt eats i = none) (h2 : owns.getD i false = false) (hb : Below w.heap.size w w') (h3 : rel Rs i v w') : Good Rs owns base (rowV eats vs i) i w v w' :=
 ⟨h3, grown_of_below hb _, fun h => by rw [h2] at h; cases h⟩
end
theorem region_own' {P : Program} {ops : Array Oper} {Q : Exit -> Act -> World -> Prop} {id : Nat} {a0 : Act} {w : World} (n : Nat) (Rs : List Rel) (owns : List Bool) (eats : List (Option Nat)) (hm : P.follows .mixedOrders = true) (hn : a0.tmps.size = n) (hs : shapeB .any ops owns eats n = true)
 (hK : KeepsL w.heap.size owns Rs) (hW : Walk P ops Q .any Rs owns eats w.heap.size w.drew ops.toList 0 a0 []) : (Code.region id ops true).wp P Q a0 w :=
 region_own Rs owns eats hm hn hs (fun i _ => KeepsL.all _ _ hK i) hW
theorem oper_append {P : Program} {o : Oper} {a : Act} {w : World} {K : Act -> World -> Prop} {Q : Exit -> Act -> World -> Prop} (s x : Operand) (t : TypeId)
 (ho : o.op = .call { callee := .builtin .append, args := #[s, x], argTypes := #[t, t] })
 (base : Nat) (e : TypeId) (i : TypeInfo) (z : Value) (size bytes : Nat) (ht : P.underlying t = some (.slice e)) (hi : P.info? e = some i) (hz : i.zero = some z)
 (hsize : i.size = size) (hby : i.bytes = bytes) (hzs : z.cells.size = size) (hsz : 0 < size)
 (v : Value) (n : Nat) (xs : List Value) (hs : a.eval s = v) (hown : w.ownsRow base e size v n xs)
 (u : Value) (m : Nat) (news : List Value) (hx : a.eval x = u) (hin : Inn w size u m news) (h1 : ∀ u ∈ news, u.oneCell' = true)
 (h63 : n + m <= maxLen) (hbytes : (n + m) * bytes <= 140737488355328) (hbase : base <= w.heap.size)
 (h : ∀ v' w', w'.ownsRow base e size v' (n + m) (xs ++ news) -> w.grownBy w' v.ownBlock -> ((v'.ownBlock = v.ownBlock /\ ∀ g, v'.ownBlock = some g -> g < w'.heap.size) \/ ∀ g, v'.ownBlock = some g -> w.heap.size <= g /\ g < w'.heap.size) -> K (a.put o.dst v') w') :
 Oper.wp P o a w K Q := by
 rcases hin with ⟨rfl, rfl, rfl⟩ | ⟨ad, c, rfl, hl, hc⟩
 ·have hrun := run_append_owned_none (P := P) (w := w) base t o.type e i size ht hi v n xs hown;unfold Oper.wp execOp;simp only [ho, resolve, invoke, builtin, Sem.run_bind, Sem.run_pure, Result.andThen_ok, List.map_toArray, List.map_cons, List.map_nil, hs, hx, hrun];exact h v w (by simpa using hown) ⟨rfl, rfl, rfl, Nat.le_refl _, fun _ _ _ => rfl⟩ (Or.inl ⟨rfl, fun g hg => (hown.lt g hg).2⟩)
 ·obtain ⟨v', w', hrun, h2, h3, _, h5⟩ := run_append_own_at (P := P) w base t o.type e i z size bytes ht hi hz hsize hby hzs hsz v n xs hown ad m c news hl (fun j u hu => by
   have hm : 0 < m := by
    rcases Nat.eq_zero_or_pos m with h0 | h0
    ·subst h0;have : news = [] := List.eq_nil_of_length_eq_zero (by omega);subst this; simp at hu
    ·exact h0
   obtain ⟨b, k, rfl, _, hc⟩ := hc hm;rw [add_lit']; exact hc j u hu) h1 h63 hbytes hbase
  unfold Oper.wp execOp;simp only [ho, resolve, invoke, builtin, Sem.run_bind, Sem.run_pure, Result.andThen_ok, List.map_toArray, List.map_cons, List.map_nil, hs, hx, hrun];refine h v' w' h2 h3 ?_;rcases h5 with h5 | h5
  ·exact Or.inl ⟨h5, fun g hg => (h2.lt g hg).2⟩
  ·refine Or.inr fun g hg => ⟨?_, (h2.lt g hg).2⟩
   rw [h5] at hg;exact Nat.le_of_eq (Option.some.inj hg)
theorem step_append {P : Program} {ops : Array Oper} {o : Oper} {a : Act} {w : World} {K : Act -> World -> Prop} {Q : Exit -> Act -> World -> Prop} {E : Prop} (hgd : o.guard = none) (s x : Operand) (t : TypeId)
 (ho : o.op = .call { callee := .builtin .append, args := #[s, x], argTypes := #[t, t] })
 (base : Nat) (e : TypeId) (i : TypeInfo) (z : Value) (size bytes : Nat) (ht : P.underlying t = some (.slice e)) (hi : P.info? e = some i) (hz : i.zero = some z)
 (hsize : i.size = size) (hby : i.bytes = bytes) (hzs : z.cells.size = size) (hsz : 0 < size)
 (v : Value) (n : Nat) (xs : List Value) (hs : a.eval s = v) (hown : w.ownsRow base e size v n xs)
 (u : Value) (m : Nat) (news : List Value) (hx : a.eval x = u) (hin : Inn w size u m news) (h1 : ∀ u ∈ news, u.oneCell' = true)
 (h63 : n + m <= maxLen) (hbytes : (n + m) * bytes <= 140737488355328) (hbase : base <= w.heap.size)
 (h : ∀ v' w', w'.ownsRow base e size v' (n + m) (xs ++ news) -> w.grownBy w' v.ownBlock -> ((v'.ownBlock = v.ownBlock /\ ∀ g, v'.ownBlock = some g -> g < w'.heap.size) \/ ∀ g, v'.ownBlock = some g -> w.heap.size <= g /\ g < w'.heap.size) -> K (a.put o.dst v') w') :
 if Region.wanted o (yielded ops a.tmps) = true then Oper.wp P o a w K Q else E := by
 have hw : Region.wanted o (yielded ops a.tmps) = true := by simp [Region.wanted, hgd]
 rw [if_pos hw];exact oper_append s x t ho base e i z size bytes ht hi hz hsize hby hzs hsz v n xs hs hown u m news hx hin h1 h63 hbytes hbase h
theorem wpList_append {P : Program} {ops : Array Oper} {rest : List Oper} {o : Oper} {a : Act} {w : World} {Q : Exit -> Act -> World -> Prop} (hgd : o.guard = none) (s x : Operand) (t : TypeId)
 (ho : o.op = .call { callee := .builtin .append, args := #[s, x], argTypes := #[t, t] })
 (base : Nat) (e : TypeId) (i : TypeInfo) (z : Value) (size bytes : Nat) (ht : P.underlying t = some (.slice e)) (hi : P.info? e = some i) (hz : i.zero = some z)
 (hsize : i.size = size) (hby : i.bytes = bytes) (hzs : z.cells.size = size) (hsz : 0 < size)
 (v : Value) (n : Nat) (xs : List Value) (hs : a.eval s = v) (hown : w.ownsRow base e size v n xs)
 (u : Value) (m : Nat) (news : List Value) (hx : a.eval x = u) (hin : Inn w size u m news) (h1 : ∀ u ∈ news, u.oneCell' = true)
 (h63 : n + m <= maxLen) (hbytes : (n + m) * bytes <= 140737488355328) (hbase : base <= w.heap.size)
 (h : ∀ v' w', w'.ownsRow base e size v' (n + m) (xs ++ news) -> w.grownBy w' v.ownBlock -> ((v'.ownBlock = v.ownBlock /\ ∀ g, v'.ownBlock = some g -> g < w'.heap.size) \/ ∀ g, v'.ownBlock = some g -> w.heap.size <= g /\ g < w'.heap.size) -> wpList P ops Q rest (a.put o.dst v') w') :
 wpList P ops Q (o :: rest) a w :=
 wpList_plain hgd fun _ hK => oper_append s x t ho base e i z size bytes ht hi hz hsize hby hzs hsz v n xs hs hown u m news hx hin h1 h63 hbytes hbase fun v' w' h2 h3 h4 => hK _ _ (h v' w' h2 h3 h4)
end Ow
end Go.Proofs.YtgjeofaedidnpaaGreatDoor
namespace Go.Proofs.YtgjeofaedidnpaaGreatDoor
structure VM where
 nm : List UInt8
 kd : Int
 lo : Int
 hi : Int
 ik : Int
 ia : Int
 ib : Int
def varK (vs : List VM) (n : List UInt8) : Int × Int :=
 match vs.find? (fun v => decide (v.nm = n)) with
 | none => (0, 2)
 | some v => if 1 <= v.kd /\ v.kd <= 3 then (v.kd, 0) else (0, 8)
def leafK (vs : List VM) (ss : List (List UInt8)) (c : CM) : Int × Int :=
 if c.op = 1 then (1, 0) else if c.op = 2 then (3, 0) else if c.op = 5 then varK vs c.nm else if c.op = 6 /\ c.nm ∉ ss then (0, 2) else (2, 0)
def unK (o k : Int) : Int := if o = 7 then (if k = 2 then 0 else k) else if o = 8 then (if k = 2 then 2 else 0) else if k = 3 then 1 else 0
def binK (o k : Int) : Int :=
 if o = 16 \/ o = 17 then 2 else if o = 22 \/ o = 23 then (if k = 2 then 2 else 0) else if 18 <= o then (if k = 1 then 2 else 0) else if 14 <= o then (if k = 1 then 1 else 0) else if k = 2 then 0 else k
def errK (k : Int) : Int × Int := if k = 0 then (0, 8) else (k, 0)
def joinK (o a b : Int) : Int × Int := if a ≠ b then (0, 8) else errK (binK o a)
section
variable (vs : List VM) (ss : List (List UInt8))
def kT : T -> Int × Int
 | .leaf c => leafK vs ss c
 | .un o t => if (kT t).2 ≠ 0 then (0, (kT t).2) else errK (unK o (kT t).1)
 | .bin o l r => if (kT l).2 ≠ 0 then (0, (kT l).2) else if (kT r).2 ≠ 0 then (0, (kT r).2) else joinK o (kT l).1 (kT r).1
def madeK (c : CM) (st : List Int) : Int × Int :=
 match operN c.op with
 | 0 => leafK vs ss c
 | 1 => errK (unK c.op (st.headD 0))
 | _ => joinK c.op (st.headD 0) ((st.drop 1).headD 0)
def kRun : List CM -> List Int -> Int × Int
 | [], st => (st.headD 0, 0)
 | c :: r, st => if (madeK vs ss c (st.drop (st.length - operN c.op))).2 ≠ 0 then (0, (madeK vs ss c (st.drop (st.length - operN c.op))).2)
  else kRun r (st.take (st.length - operN c.op) ++ [(madeK vs ss c (st.drop (st.length - operN c.op))).1])
def kindP (cs : List CM) : Int × Int := if rightB cs = true then kRun vs ss cs [] else (0, 1)
end
section
variable {vs : List VM} {ss : List (List UInt8)}
theorem varK_range (n : List UInt8) : ((varK vs n).2 = 0 /\ 1 <= (varK vs n).1 /\ (varK vs n).1 <= 3) \/ ((varK vs n).2 ≠ 0 /\ (varK vs n).1 = 0) := by
 unfold varK;split
 ·exact Or.inr ⟨by decide, rfl⟩
 ·split
  ·rename_i h; exact Or.inl ⟨rfl, h.1, h.2⟩
  ·exact Or.inr ⟨by decide, rfl⟩
theorem leafK_range (c : CM) : ((leafK vs ss c).2 = 0 /\ 1 <= (leafK vs ss c).1 /\ (leafK vs ss c).1 <= 3) \/ ((leafK vs ss c).2 ≠ 0 /\ (leafK vs ss c).1 = 0) := by
 unfold leafK;split
 ·exact Or.inl ⟨rfl, by decide, by decide⟩
 ·split
  ·exact Or.inl ⟨rfl, by decide, by decide⟩
  ·split
   ·exact varK_range _
   ·split
    ·exact Or.inr ⟨by decide, rfl⟩
    ·exact Or.inl ⟨rfl, by decide, by decide⟩
theorem errK_range {k : Int} (h : 0 <= k /\ k <= 3) : ((errK k).2 = 0 /\ 1 <= (errK k).1 /\ (errK k).1 <= 3) \/ ((errK k).2 ≠ 0 /\ (errK k).1 = 0) := by
 unfold errK;split
 ·exact Or.inr ⟨by decide, rfl⟩
 ·exact Or.inl ⟨rfl, by show 1 <= k; omega, h.2⟩
theorem unK_range {o k : Int} (h : 1 <= k /\ k <= 3) : 0 <= unK o k /\ unK o k <= 3 := by
 unfold unK
 repeat' split
 all_goals omega
theorem binK_range {o k : Int} (h : 1 <= k /\ k <= 3) : 0 <= binK o k /\ binK o k <= 3 := by
 unfold binK
 repeat' split
 all_goals omega
theorem joinK_range {o a b : Int} (h : 1 <= a /\ a <= 3) : ((joinK o a b).2 = 0 /\ 1 <= (joinK o a b).1 /\ (joinK o a b).1 <= 3) \/ ((joinK o a b).2 ≠ 0 /\ (joinK o a b).1 = 0) := by
 unfold joinK;split
 ·exact Or.inr ⟨by decide, rfl⟩
 ·exact errK_range (binK_range h)
theorem kT_range (t : T) : ((kT vs ss t).2 = 0 /\ 1 <= (kT vs ss t).1 /\ (kT vs ss t).1 <= 3) \/ ((kT vs ss t).2 ≠ 0 /\ (kT vs ss t).1 = 0) := by
 induction t with
 | leaf c => exact leafK_range c
 | un o t ih =>
  unfold kT;rcases ih with ⟨h1, h2⟩ | ⟨h1, h2⟩
  ·rw [if_neg (by simp [h1])]; exact errK_range (unK_range h2)
  ·rw [if_pos h1]; exact Or.inr ⟨h1, rfl⟩
 | bin o l r ihl ihr =>
  unfold kT;rcases ihl with ⟨h1, h2⟩ | ⟨h1, h2⟩
  ·rw [if_neg (by simp [h1])];rcases ihr with ⟨h3, h4⟩ | ⟨h3, h4⟩
   ·rw [if_neg (by simp [h3])]; exact joinK_range h2
   ·rw [if_pos h3]; exact Or.inr ⟨h3, rfl⟩
  ·rw [if_pos h1]; exact Or.inr ⟨h1, rfl⟩
theorem run_kT {t : T} (h : OkT t) : ∀ (r : List CM) (st : List Int), kRun vs ss (post t ++ r) st = if (kT vs ss t).2 ≠ 0 then (0, (kT vs ss t).2) else kRun vs ss r (st ++ [(kT vs ss t).1]) := by
 induction t with
 | leaf c =>
  intro r st;show kRun vs ss (c :: r) st = _;have h0 : operN c.op = 0 := h.2;have hm : madeK vs ss c (st.drop (st.length - operN c.op)) = leafK vs ss c := by unfold madeK; rw [h0]; rfl
  rw [kRun, hm, h0, Nat.sub_zero, List.take_length];rfl
 | un o t ih =>
  intro r st;show kRun vs ss (post t ++ [opC o] ++ r) st = _;rw [List.append_assoc, ih h.2.2];by_cases h1 : (kT vs ss t).2 = 0
  ·have h1' : ¬ (kT vs ss t).2 ≠ 0 := fun e => e h1
   have e : kT vs ss (.un o t) = errK (unK o (kT vs ss t).1) := if_neg h1';rw [if_neg h1', e];show kRun vs ss (opC o :: r) _ = _;have hn : operN (opC o).op = 1 := operN_un ⟨h.1, h.2.1⟩;have hl : (st ++ [(kT vs ss t).1]).length - 1 = st.length := by simp
   have hm : madeK vs ss (opC o) [(kT vs ss t).1] = errK (unK o (kT vs ss t).1) := by
    unfold madeK; rw [hn]; rfl
   rw [kRun, hn, hl, List.drop_left, List.take_left, hm]
  ·have e : kT vs ss (.un o t) = (0, (kT vs ss t).2) := if_pos h1;rw [if_pos h1, e, if_pos h1]
 | bin o l r' ihl ihr =>
  intro r st;show kRun vs ss (post l ++ post r' ++ [opC o] ++ r) st = _;rw [List.append_assoc, List.append_assoc, ihl h.2.2.1];by_cases h1 : (kT vs ss l).2 = 0
  ·have h1' : ¬ (kT vs ss l).2 ≠ 0 := fun e => e h1
   rw [if_neg h1', ihr h.2.2.2];by_cases h2 : (kT vs ss r').2 = 0
   ·have h2' : ¬ (kT vs ss r').2 ≠ 0 := fun e => e h2
    have e : kT vs ss (.bin o l r') = joinK o (kT vs ss l).1 (kT vs ss r').1 := (if_neg h1').trans (if_neg h2');rw [if_neg h2', e];show kRun vs ss (opC o :: r) _ = _;have hn : operN (opC o).op = 2 := operN_bin ⟨h.1, h.2.1⟩;have hl : (st ++ [(kT vs ss l).1] ++ [(kT vs ss r').1]).length - 2 = st.length := by simp
    have hd : (st ++ [(kT vs ss l).1] ++ [(kT vs ss r').1]).drop st.length = [(kT vs ss l).1, (kT vs ss r').1] := by
     rw [List.append_assoc, List.drop_left]; rfl
    have ht : (st ++ [(kT vs ss l).1] ++ [(kT vs ss r').1]).take st.length = st := by
     rw [List.append_assoc, List.take_left]
    have hm : madeK vs ss (opC o) [(kT vs ss l).1, (kT vs ss r').1] = joinK o (kT vs ss l).1 (kT vs ss r').1 := by
     unfold madeK; rw [hn]; rfl
    rw [kRun, hn, hl, hd, hm, ht]
   ·have e : kT vs ss (.bin o l r') = (0, (kT vs ss r').2) := (if_neg h1').trans (if_pos h2);rw [if_pos h2, e, if_pos h2]
  ·have e : kT vs ss (.bin o l r') = (0, (kT vs ss l).2) := if_pos h1;rw [if_pos h1, e, if_pos h1]
theorem kind_tree {t : T} (h : OkT t) (hl : (post t).length <= 32) : kindP vs ss (post t) = kT vs ss t := by
 unfold kindP;rw [if_pos (tree_right h hl)];have := run_kT (vs := vs) (ss := ss) h [] [];rw [List.append_nil] at this;rw [this];rcases kT_range (vs := vs) (ss := ss) t with ⟨h1, h2⟩ | ⟨h1, h2⟩
 ·rw [if_neg (by simp [h1])];show ((kT vs ss t).1, (0 : Int)) = _;rw [<- h1]
 ·rw [if_pos h1, <- h2]
end
end Go.Proofs.YtgjeofaedidnpaaGreatDoor
namespace Go.Proofs.YtgjeofaedidnpaaGreatDoor
open Go.RowKit
def varV (v : VM) : List Value := [bstr v.nm, .int .i64 v.kd, .int .i64 v.lo, .int .i64 v.hi, .int .i64 v.ik, .int .i64 v.ia, .int .i64 v.ib]
def flatV (vs : List VM) : List Value := vs.flatMap varV
theorem flatV_at {vs : List VM} {i : Nat} (h : i < vs.length) {j : Nat} (hj : j < 7) : (flatV vs)[i * 7 + j]? = (varV vs[i])[j]? := by
 induction vs generalizing i with
 | nil => simp at h
 | cons v r ih =>
  show (varV v ++ flatV r)[i * 7 + j]? = _;cases i with
  | zero => rw [List.getElem?_append_left (by simp [varV]; omega)]; simp
  | succ k =>
   rw [List.getElem?_append_right (by simp [varV]; omega)];have e : (k + 1) * 7 + j - (varV v).length = k * 7 + j := by simp [varV]; omega
   rw [e];exact ih (by simpa using h)
def RdV (w : World) (v : Value) (vs : List VM) : Prop := Inn w 7 v vs.length (flatV vs)
def RdW (w : World) (v : Value) (xs : List (List UInt8)) : Prop := Inn w 1 v xs.length (xs.map bstr)
theorem RdV.below {w w' : World} {v : Value} {vs : List VM} (h : RdV w v vs) (hb : Below w.heap.size w w') : RdV w' v vs := Inn.below h hb
theorem RdW.below {w w' : World} {v : Value} {xs : List (List UInt8)} (h : RdW w v xs) (hb : Below w.heap.size w w') : RdW w' v xs := Inn.below h hb
theorem RdV.at_ {w : World} {A : Option Addr} {m c : Nat} {vs : List VM} (h : RdV w (.slice A m c) vs) {k : Nat} (hk : k < vs.length) :
 ∃ b o, A = some ⟨b, o, none⟩ /\ b < w.heap.size /\ w.cell? ⟨b, o + k * 7, none⟩ = some (bstr vs[k].nm) /\ w.cell? ⟨b, o + k * 7 + 1, none⟩ = some (.int .i64 vs[k].kd) /\ w.cell? ⟨b, o + k * 7 + 2, none⟩ = some (.int .i64 vs[k].lo) /\
  w.cell? ⟨b, o + k * 7 + 3, none⟩ = some (.int .i64 vs[k].hi) /\ w.cell? ⟨b, o + k * 7 + 4, none⟩ = some (.int .i64 vs[k].ik) /\ w.cell? ⟨b, o + k * 7 + 5, none⟩ = some (.int .i64 vs[k].ia) /\ w.cell? ⟨b, o + k * 7 + 6, none⟩ = some (.int .i64 vs[k].ib) := by
 obtain ⟨b, o, hA, hlt, hc⟩ := Inn.at_ h hk;exact ⟨b, o, hA, hlt, hc 0 _ ((flatV_at hk (by omega)).trans rfl), hc 1 _ ((flatV_at hk (by omega)).trans rfl), hc 2 _ ((flatV_at hk (by omega)).trans rfl), hc 3 _ ((flatV_at hk (by omega)).trans rfl), hc 4 _ ((flatV_at hk (by omega)).trans rfl), hc 5 _ ((flatV_at hk (by omega)).trans rfl), hc 6 _ ((flatV_at hk (by omega)).trans rfl)⟩
theorem RdW.at_ {w : World} {A : Option Addr} {m c : Nat} {xs : List (List UInt8)} (h : RdW w (.slice A m c) xs) {k : Nat} (hk : k < xs.length) :
 ∃ b o, A = some ⟨b, o, none⟩ /\ b < w.heap.size /\ w.cell? ⟨b, o + k, none⟩ = some (bstr xs[k]) := by
 obtain ⟨b, o, hA, hlt, hc⟩ := Inn.at_ h hk;have := hc 0 (bstr xs[k]) (by simp [hk]);exact ⟨b, o, hA, hlt, by simpa using this⟩
theorem RdV.form {w : World} {v : Value} {vs : List VM} (h : RdV w v vs) : ∃ A c, v = .slice A vs.length c := Inn.form h
theorem RdW.form {w : World} {v : Value} {xs : List (List UInt8)} (h : RdW w v xs) : ∃ A c, v = .slice A xs.length c := Inn.form h
end Go.Proofs.YtgjeofaedidnpaaGreatDoor
