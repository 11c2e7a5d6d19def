/- Own texts, joined: Bb, Yr, Oc. -/
import Derived.Test.YtdooeonilbpfgaaGreatDoorR14
import Derived.Test.YtdooeonilbpfgaaGreatDoorR15
import Derived.Test.YtdooeonilbpfgaaGreatDoorR16
import Derived.RangeFuncBox
namespace Go.Proofs.YtdooeonilbpfgaaGreatDoor.Ch
open Go.RowKit
def vaV (v : VM) : List Value := [bstr v.nm, .int .i64 v.kd, .int .i64 v.lo, .int .i64 v.hi, .int .i64 v.ik, .int .i64 v.ia, .int .i64 v.ib]
def flatV (vs : List VM) : List Value := vs.flatMap vaV
abbrev SP := SC × Value × Value
def stV (p : SP) : List Value := [bstr p.1.nm, .int .i64 p.1.kd, .int .i64 p.1.dp, bstr p.1.ini, p.2.1, p.2.2]
def flatS (ps : List SP) : List Value := ps.flatMap stV
abbrev TP := TC × Value × Value
def trV (p : TP) : List Value := [.int .i64 p.1.fr, bstr p.1.ev, p.2.1, bstr p.1.to, p.2.2]
def flatT (ps : List TP) : List Value := ps.flatMap trV
def strsV (l : List (List UInt8)) : List Value := l.map bstr
theorem flatM_length {α : Type} (f : α → List Value) (k : Nat) (hf : ∀ a, (f a).length = k) (l : List α) : (l.flatMap f).length = l.length * k := by
 induction l with
 | nil => simp
 | cons a r ih => rw [List.flatMap_cons, List.length_append, hf, ih, List.length_cons, Nat.succ_mul, Nat.add_comm]
theorem flatM_at {α : Type} (f : α → List Value) (k : Nat) (hf : ∀ a, (f a).length = k) {l : List α} {i : Nat} (h : i < l.length) {j : Nat} (hj : j < k) : (l.flatMap f)[i * k + j]? = (f l[i])[j]? := by
 induction l generalizing i with
 | nil => simp at h
 | cons a r ih =>
  rw [List.flatMap_cons]
  cases i with
  | zero => rw [List.getElem?_append_left (by rw [hf]; omega)]; simp
  | succ q =>
   rw [List.getElem?_append_right (by rw [hf, Nat.succ_mul]; omega), hf]
   have e : (q + 1) * k + j - k = q * k + j := by rw [Nat.succ_mul]; omega
   rw [e]
   exact ih (by simpa using h)
theorem flatT_length (l : List TP) : (flatT l).length = l.length * 5 := flatM_length trV 5 (fun _ => rfl) l
theorem Tryz.infoVar : (Tryz.prog.info? 64).map (fun i => (i.zero, i.size, i.bytes)) = some (some (.agg #[.string ByteArray.empty, .int .i64 0, .int .i64 0, .int .i64 0, .int .i64 0, .int .i64 0, .int .i64 0]), 7, 64) := by kernel_rfl
theorem Tryz.infoState : (Tryz.prog.info? 67).map (fun i => (i.zero, i.size, i.bytes)) = some (some (.agg #[.string ByteArray.empty, .int .i64 0, .int .i64 0, .string ByteArray.empty, .slice none 0 0, .slice none 0 0]), 6, 96) := by kernel_rfl
theorem Tryz.infoTrans : (Tryz.prog.info? 71).map (fun i => (i.zero, i.size, i.bytes)) = some (some (.agg #[.int .i64 0, .string ByteArray.empty, .slice none 0 0, .string ByteArray.empty, .slice none 0 0]), 5, 88) := by kernel_rfl
def KeepI (w w' : World) : Prop := w.heap.size ≤ w'.heap.size ∧ ∀ (k : Nat) (cur : Array Value) (t : TypeId), (t = 94 ∨ t = 96) → w.heap[k]? = some (Obj.cells cur t (0, 0)) → w'.heap[k]? = some (Obj.cells cur t (0, 0))
theorem lt_of_heap {w : World} {k : Nat} {o : Obj} (h : w.heap[k]? = some o) : k < w.heap.size := (Array.getElem?_eq_some_iff.1 h).1
theorem KeepI.of_below {w w' : World} (h : Below w.heap.size w w') : KeepI w w' := ⟨h.size, fun k _ _ _ hk => (h.block k (lt_of_heap hk)).trans hk⟩
theorem KeepI.of_grown {w w' : World} {g : Nat} {cur : Array Value} {t : TypeId} {z : Nat × Nat} (h : w.grownBy w' (some g)) (hg : w.heap[g]? = some (.cells cur t z)) (h1 : t ≠ 94) (h2 : t ≠ 96) : KeepI w w' :=
 ⟨h.size, fun k cur' t' ht hk => (h.block k (lt_of_heap hk) (fun e => by
  have e := Option.some.inj e
  subst e
  rw [hg] at hk
  injection hk with hk
  injection hk with _ hk _
  subst hk
  rcases ht with ht | ht
  ·exact h1 ht
  ·exact h2 ht)).trans hk⟩
theorem KeepI.own {w w' : World} {B : Nat} {e : TypeId} {size n : Nat} {v : Value} {xs : List Value} (hk : KeepI w w') (h : w.ownsRow B e size v n xs) (he : e = 94 ∨ e = 96) : w'.ownsRow B e size v n xs := by
 obtain ⟨h0, h | ⟨g, cap, cur, h1, h2, h3, h4⟩⟩ := h
 ·exact ⟨h0, Or.inl h⟩
 ·exact ⟨h0, Or.inr ⟨g, cap, cur, h1, h2, hk.2 g cur e he h3, h4⟩⟩
def BlkO (B : Nat) (w : World) (v : Value) (l : List AM) : Prop := ∃ al : List AP, al.map Prod.fst = l ∧ w.ownsRow B 94 3 v al.length (flatA al) ∧ ∀ p ∈ al, ActO B w p
theorem BlkO.keep {B : Nat} {w w' : World} {v : Value} {l : List AM} (h : BlkO B w v l) (hk : KeepI w w') : BlkO B w' v l := by
 obtain ⟨al, h1, h2, h3⟩ := h
 exact ⟨al, h1, hk.own h2 (Or.inl rfl), fun p hp => ⟨hk.own (h3 p hp).own (Or.inr rfl), (h3 p hp).len, (h3 p hp).names, (h3 p hp).name⟩⟩
theorem BlkO.nil (B : Nat) (w : World) : BlkO B w (.slice none 0 0) [] := ⟨[], rfl, World.ownsRow_nil _ _ _ _, fun p hp => by cases hp⟩
theorem BlkO.form {B : Nat} {w : World} {v : Value} {l : List AM} (h : BlkO B w v l) : ∃ A c, v = .slice A l.length c := by
 obtain ⟨al, h1, h2, _⟩ := h
 obtain ⟨A, c, e⟩ := own_slice h2
 exact ⟨A, c, by rw [e, ← h1, List.length_map]⟩
structure GdO (B : Nat) (w : World) (v : Value) (cs : List CM) : Prop where
 own : w.ownsRow B 96 3 v cs.length (flat cs)
 len : cs.length * 32 ≤ 140737488355328
 names : Names cs
theorem GdO.keep {B : Nat} {w w' : World} {v : Value} {cs : List CM} (h : GdO B w v cs) (hk : KeepI w w') : GdO B w' v cs := ⟨hk.own h.own (Or.inr rfl), h.len, h.names⟩
theorem GdO.nil (B : Nat) (w : World) : GdO B w (.slice none 0 0) [] := ⟨World.ownsRow_nil _ _ _ _, by simp, fun c hc => by cases hc⟩
structure KeptB (b B : Nat) (w w' : World) : Prop where
 os : w'.os = w.os
 tape : w'.tape = w.tape
 output : w'.output = w.output
 size : w.heap.size ≤ w'.heap.size
 block : ∀ k, k < B → k ≠ b → w'.heap[k]? = w.heap[k]?
 others : ∀ (k : Nat) (o : Obj), w.heap[k]? = some o → o.isCells = false → w'.heap[k]? = some o
theorem KeptB.refl (b B : Nat) (w : World) : KeptB b B w w := ⟨rfl, rfl, rfl, Nat.le_refl _, fun _ _ _ => rfl, fun _ _ h _ => h⟩
theorem KeptB.trans {b B : Nat} {x y z : World} (h : KeptB b B x y) (k : KeptB b B y z) : KeptB b B x z :=
 ⟨k.os.trans h.os, k.tape.trans h.tape, k.output.trans h.output, Nat.le_trans h.size k.size, fun i hi hb => (k.block i hi hb).trans (h.block i hi hb), fun i o h1 h2 => k.others i o (h.others i o h1 h2) h2⟩
theorem KeptB.of_below {b B : Nat} {w w' : World} (h : Below w.heap.size w w') (hB : B ≤ w.heap.size) : KeptB b B w w' := ⟨h.os, h.tape, h.output, h.size, fun k hk _ => h.block k (Nat.lt_of_lt_of_le hk hB), fun k _ h1 _ => (h.block k (lt_of_heap h1)).trans h1⟩
theorem KeptB.of_grown {b B : Nat} {w w' : World} {row : Option Nat} (h : w.grownBy w' row) (hB : B ≤ w.heap.size) (hr : ∀ g, row = some g → g = b ∨ B ≤ g) (hc : ∀ g, row = some g → ∃ (cur : Array Value) (t : TypeId) (z : Nat × Nat), w.heap[g]? = some (.cells cur t z)) : KeptB b B w w' :=
 ⟨h.os, h.tape, h.output, h.size, fun k hk hb => h.block k (Nat.lt_of_lt_of_le hk hB) (fun e => by rcases hr k e.symm with h | h <;> omega), fun k o h1 h2 => (h.block k (lt_of_heap h1) (fun e => by obtain ⟨_, _, _, h3⟩ := hc k e.symm; rw [h3] at h1; cases h1; cases h2)).trans h1⟩
theorem KeptB.below {b B B0 : Nat} {w w' : World} (h : KeptB b B w w') (h1 : B0 ≤ b) (h2 : B0 ≤ B) : Below B0 w w' := ⟨h.os, h.tape, h.output, h.size, fun k hk => h.block k (by omega) (by omega)⟩
structure OwnCh (b B : Nat) (t : TypeId) (w : World) (c : CH) (eV vV sV tV : Value) (sp : List SP) (tp : List TP) : Prop where
 box : w.heap[b]? = some (.cells #[bstr c.nm, eV, vV, sV, tV] t (0, 0))
 lt : b < B
 le : B ≤ w.heap.size
 es : w.ownsRow B 9 1 eV c.es.length (strsV c.es)
 vs : w.ownsRow B 64 7 vV c.vs.length (flatV c.vs)
 ssE : sp.map Prod.fst = c.ss
 ss : w.ownsRow B 67 6 sV sp.length (flatS sp)
 tsE : tp.map Prod.fst = c.ts
 ts : w.ownsRow B 71 5 tV tp.length (flatT tp)
 sd : ∀ p ∈ sp, BlkO B w p.2.1 p.1.en ∧ BlkO B w p.2.2 p.1.ex
 td : ∀ p ∈ tp, GdO B w p.2.1 p.1.gd ∧ BlkO B w p.2.2 p.1.ac
def Rdr (b B : Nat) (t : TypeId) (w : World) (c : CH) : Prop := ∃ eV vV sV tV sp tp, OwnCh b B t w c eV vV sV tV sp tp
theorem own_kept_ne {w w' : World} {B : Nat} {e : TypeId} {size n : Nat} {v : Value} {xs : List Value} (h : w.ownsRow B e size v n xs) {g : Nat} {cur : Array Value} {t : TypeId} {z : Nat × Nat} (hg : w.grownBy w' (some g)) (hc : w.heap[g]? = some (.cells cur t z)) (hne : t ≠ e) : w'.ownsRow B e size v n xs := by
 refine h.kept hg ?_
 rcases h.2 with ⟨rfl, _⟩ | ⟨g', cap, cur', rfl, _, h3, _⟩
 ·exact Or.inl rfl
 ·refine Or.inr fun e' => ?_
  have e' : g' = g := by simpa [Value.ownBlock] using e'
  subst e'
  rw [h3] at hc
  injection hc with hc
  injection hc with _ hc _
  exact hne hc.symm
section
variable {b B : Nat} {t : TypeId} {w w' : World} {c : CH} {eV vV sV tV : Value} {sp : List SP} {tp : List TP}
theorem OwnCh.below (h : OwnCh b B t w c eV vV sV tV sp tp) (hb : Below w.heap.size w w') : OwnCh b B t w' c eV vV sV tV sp tp := by
 have hk := KeepI.of_below hb
 exact ⟨(hb.block b (Nat.lt_of_lt_of_le h.lt h.le)).trans h.box, h.lt, Nat.le_trans h.le hb.size, own_below h.es hb, own_below h.vs hb, h.ssE, own_below h.ss hb, h.tsE, own_below h.ts hb,
  fun p hp => ⟨(h.sd p hp).1.keep hk, (h.sd p hp).2.keep hk⟩, fun p hp => ⟨(h.td p hp).1.keep hk, (h.td p hp).2.keep hk⟩⟩
theorem OwnCh.cells (h : OwnCh b B t w c eV vV sV tV sp tp) : w.cell? ⟨b, 0, none⟩ = some (bstr c.nm) ∧ w.cell? ⟨b, 1, none⟩ = some eV ∧ w.cell? ⟨b, 2, none⟩ = some vV ∧ w.cell? ⟨b, 3, none⟩ = some sV ∧ w.cell? ⟨b, 4, none⟩ = some tV := by
 have := h.box
 refine ⟨?_, ?_, ?_, ?_, ?_⟩ <;> (unfold World.cell?; rw [this]; rfl)
theorem OwnCh.frozen (h : OwnCh b B t w c eV vV sV tV sp tp) (j : Nat) : w.frozen? ⟨b, j, none⟩ = false := by simp [World.frozen?, h.box]
end
end Go.Proofs.YtdooeonilbpfgaaGreatDoor.Ch
namespace Go.Proofs.YtdooeonilbpfgaaGreatDoor.Ch
open Go.RowKit
def BlkR (w : World) (v : Value) (l : List AM) : Prop := ∃ ps : List AP, ps.map Prod.fst = l ∧ RdA w v ps ∧ ps.length ≤ 9223372036854775807
theorem BlkR.below {w w' : World} {v : Value} {l : List AM} (h : BlkR w v l) (hb : Below w.heap.size w w') : BlkR w' v l := by
 obtain ⟨ps, h1, h2, h3⟩ := h; exact ⟨ps, h1, h2.below hb, h3⟩
def GdR (w : World) (v : Value) (cs : List CM) : Prop := RdI w v cs ∧ cs.length * 32 ≤ 140737488355328
theorem GdR.below {w w' : World} {v : Value} {cs : List CM} (h : GdR w v cs) (hb : Below w.heap.size w w') : GdR w' v cs := ⟨h.1.below hb, h.2⟩
def StR (w : World) (p : SP) : Prop := BlkR w p.2.1 p.1.en ∧ BlkR w p.2.2 p.1.ex
def TrR (w : World) (p : TP) : Prop := GdR w p.2.1 p.1.gd ∧ BlkR w p.2.2 p.1.ac
theorem StR.below {w w' : World} {p : SP} (h : StR w p) (hb : Below w.heap.size w w') : StR w' p := ⟨h.1.below hb, h.2.below hb⟩
theorem TrR.below {w w' : World} {p : TP} (h : TrR w p) (hb : Below w.heap.size w w') : TrR w' p := ⟨h.1.below hb, h.2.below hb⟩
structure ChM (w : World) (c : CH) (eV vV sV tV : Value) (sp : List SP) (tp : List TP) : Prop where
 es : Inn w 1 eV c.es.length (strsV c.es)
 vs : Inn w 7 vV c.vs.length (flatV c.vs)
 ssE : sp.map Prod.fst = c.ss
 ss : Inn w 6 sV sp.length (flatS sp)
 tsE : tp.map Prod.fst = c.ts
 ts : Inn w 5 tV tp.length (flatT tp)
 sd : ∀ p ∈ sp, StR w p
 td : ∀ p ∈ tp, TrR w p
 el : c.es.length ≤ 9223372036854775807
 vl : c.vs.length ≤ 9223372036854775807
 sl : sp.length ≤ 9223372036854775807
 tl : tp.length ≤ 9223372036854775807
theorem ChM.below {w w' : World} {c : CH} {eV vV sV tV : Value} {sp : List SP} {tp : List TP} (h : ChM w c eV vV sV tV sp tp) (hb : Below w.heap.size w w') : ChM w' c eV vV sV tV sp tp :=
 ⟨h.es.below hb, h.vs.below hb, h.ssE, h.ss.below hb, h.tsE, h.ts.below hb, fun p hp => (h.sd p hp).below hb, fun p hp => (h.td p hp).below hb, h.el, h.vl, h.sl, h.tl⟩
end Go.Proofs.YtdooeonilbpfgaaGreatDoor.Ch
namespace Go.Proofs.YtdooeonilbpfgaaGreatDoor
open Go Go.RowKit
namespace Oz
open Ow (Rel eqR beforeB eatsAt eatenB dstAt looksB depB rel acts vals NoWay before_iff dep_of vals_succ vals_at acts_size run_alike countP_lt eatsAt_eaten)
def lastB (md : Region.Mode) (ops : Array Oper) : Bool := (List.range ops.size).all fun j => decide (j + 1 = ops.size) || (List.range ops.size).any fun k => beforeB md ops j k
theorem last_of {md : Region.Mode} {ops : Array Oper} (h : lastB md ops = true) : ∀ j, j + 1 < ops.size → ∃ k, k < ops.size ∧ beforeB md ops j k = true := by
 intro j hj
 unfold lastB at h
 have h1 := List.all_eq_true.1 h j (List.mem_range.2 (by omega))
 rw [Bool.or_eq_true] at h1
 rcases h1 with h1 | h1
 ·have := of_decide_eq_true h1; omega
 ·obtain ⟨k, hk, hb⟩ := List.any_eq_true.1 h1
  exact ⟨k, List.mem_range.1 hk, hb⟩
theorem last_all {L : Nat → Bool} {N : Nat} {B : Nat → Nat → Bool} (hcl : ∀ i j, i < N → L i = true → B j i = true → L j = true) (hb : ∀ j k, B j k = true → j < k) (hl : ∀ j, j + 1 < N → ∃ k, k < N ∧ B j k = true) (hN : ∀ j, j + 1 = N → L j = true) : ∀ m k, k < N → N - k ≤ m → L k = true
 | 0, k, hk, hm => by omega
 | m + 1, k, hk, hm => by
  by_cases h : k + 1 = N
  ·exact hN k h
  ·obtain ⟨q, hq, hB⟩ := hl k (by omega)
   exact hcl q k hq (last_all hcl hb hl hN m q hq (by have := hb k q hB; omega)) hB
section
variable (P : Program) (ops : Array Oper) (Q : Exit → Act → World → Prop) (md : Region.Mode) (Rs : List Rel) (owns : List Bool) (eats : List (Option Nat)) (cl : Nat → Option Nat) (base : Nat)
def DutyL (w0 : World) (i : Nat) (o : Oper) (a : Act) (vs : List Value) : Prop :=
 ∀ w, Below base w0 w → (∀ k, k < w0.heap.size → (∀ j, cl j = some k → j = i ∨ j + 1 = ops.size) → w.heap[k]? = w0.heap[k]?) → (∀ j, depB md ops j i = true → rel Rs j (vs.getD j undef) w) → (∀ j, depB md ops j i = true → owns.getD j false = true → ∀ g, ownB (vs.getD j undef) = some g → base ≤ g) →
  ∀ K : Act → World → Prop, (∀ v w', Good Rs owns cl base (rowV eats cl vs i) i w (pickV o.dst (eatenV eats cl vs i) v) w' → K (a.put o.dst v) w') →
   if Region.wanted o (yielded ops a.tmps) = true then Oper.wp P o a w K NoWay else K (a.put o.dst undef) w
def WalkL (w0 : World) : List Oper → Nat → Act → List Value → Prop
 | [], _, a, vs => ∀ w, Below base w0 w → (∀ k, k < w0.heap.size → (∀ j, cl j ≠ some k) → w.heap[k]? = w0.heap[k]?) → (∀ j, j < ops.size → eatenB eats j = false → rel Rs j (vs.getD j undef) w) → Q .normal a w
 | o :: r, i, a, vs => DutyL P ops md Rs owns eats cl base w0 i o a vs ∧ ∀ v, WalkL w0 r (i + 1) (a.put o.dst v) (vs ++ [pickV o.dst (eatenV eats cl vs i) v])
end
section
variable {P : Program} {ops : Array Oper} {Q : Exit → Act → World → Prop} {md : Region.Mode} {Rs : List Rel} {owns : List Bool} {eats : List (Option Nat)} {cl : Nat → Option Nat} {base : Nat} {w0 : World}
theorem walk_actsL (a0 : Act) (vs : Nat → Value) (hv : ∀ i, i < ops.size → pickV (dstAt ops i) (eatenV eats cl (vals vs i) i) (vs i) = vs i) : ∀ (l : List Oper) (i : Nat), (∀ j, l[j]? = ops[i + j]?) → WalkL P ops Q md Rs owns eats cl base w0 l i (acts ops a0 vs i) (vals vs i) →
  (∀ j o, i ≤ j → ops[j]? = some o → DutyL P ops md Rs owns eats cl base w0 j o (acts ops a0 vs j) (vals vs j)) ∧ (i ≤ ops.size → WalkL P ops Q md Rs owns eats cl base w0 [] ops.size (acts ops a0 vs ops.size) (vals vs ops.size)) := by
 intro l
 induction l with
 | nil =>
  intro i hl h
  have hs : ops.size ≤ i := by
   have := hl 0
   simp at this
   exact this
  refine ⟨fun j o hj ho => ?_, fun hi => ?_⟩
  ·have := (Array.getElem?_eq_some_iff.1 ho).1; omega
  ·have : i = ops.size := by omega
   subst this
   exact h
 | cons o r ih =>
  intro i hl h
  have h0 : ops[i]? = some o := by have := hl 0; simpa using this.symm
  have hd : dstAt ops i = o.dst := by simp [dstAt, h0]
  have hw := h.2 (vs i)
  rw [← hd, hv i (Array.getElem?_eq_some_iff.1 h0).1, ← vals_succ] at hw
  obtain ⟨h1, h2⟩ := ih (i + 1) (fun j => by have := hl (j + 1); simp at this; rw [this]; congr 1; omega) hw
  refine ⟨fun j p hj hp => ?_, fun _ => h2 (by have := (Array.getElem?_eq_some_iff.1 h0).1; omega)⟩
  by_cases hji : j = i
  ·subst hji
   obtain rfl : o = p := by rw [h0] at hp; exact Option.some.inj hp
   exact h.1
  ·exact h1 j p (by omega) hp
theorem Inv.stepL {n i : Nat} (S : Shape md ops owns eats n) {a0 a : Act} (hn : a0.tmps.size = n) {L : Nat → Bool} {w w' : World}
  (hC : Claims cl base w0) (I : Inv P ops md Rs owns eats cl base w0 a0 L a w) (hbw : base ≤ w.heap.size) (hK : ∀ j, j < ops.size → j ≠ i → L j = true → Keeps1 base (owns.getD j false) (rel Rs j)) (hi : i < ops.size) (hL : L i = false) (hdep : ∀ j, beforeB md ops j i = true → L j = true) {v : Value} (hv : dstAt ops i = none → v = valAt ops eats cl a i) (G : Good Rs owns cl base (rowOf ops eats cl a i) i w v w') :
  Inv P ops md Rs owns eats cl base w0 a0 (fun j => if j = i then true else L j) (a.put (dstAt ops i) v) w' ∧ base ≤ w'.heap.size := by
 obtain ⟨hR, hg, ho⟩ := G
 obtain ⟨hvi, hvj'⟩ := valAt_put S (I.size.trans hn) hi v hv
 have hvj : ∀ j, j < ops.size → j ≠ i → L j = true → valAt ops eats cl (a.put (dstAt ops i) v) j = valAt ops eats cl a j := fun j hj hji hLj => hvj' j hj hji fun he => by
  have := I.closed j i hj hLj (S.eat j i he).2.2.1
  rw [hL] at this; cases this
 -- what is taken over is alive, and an owner
 have hrow : ∀ g, rowOf ops eats cl a i = some g → (∃ k, eatsAt eats i = some k ∧ k < i ∧ L k = true ∧ (∀ m, eatsAt eats m = some k → L m = false) ∧ owns.getD k false = true ∧ ownB (valAt ops eats cl a k) = some g) ∨ cl i = some g := by
  intro g hgr
  unfold rowOf at hgr
  cases hk : eatsAt eats i with
  | none => rw [hk] at hgr; exact Or.inr hgr
  | some k =>
   rw [hk] at hgr
   refine Or.inl ?_
   obtain ⟨_, h1, h2, h3⟩ := S.eat i k hk
   refine ⟨k, rfl, S.back _ _ h2, hdep k h2, fun m hm => ?_, h1, hgr⟩
   cases hLm : L m with
   | false => rfl
   | true =>
    exfalso
    have hms := (S.eat m k hm).1
    by_cases hmi : m = i
    ·subst hmi; rw [hL] at hLm; cases hLm
    ·-- both look at k's slot
     obtain ⟨d, hd⟩ := S.eatd i k hk
     have hlm : looksB ops i d = true ∨ looksB ops i d = false := by cases looksB ops i d <;> simp
     rcases hlm with hli | hli
     ·have := (S.eat m k hm).2.2.2 i d hi (Ne.symm hmi) hd hli
      exact absurd (I.closed m i hms hLm this) (by rw [hL]; simp)
     ·have := S.eaters i k hk d hd
      rw [hli] at this; cases this
 have hB : Below base w w' := ⟨hg.os, hg.tape, hg.output, hg.size, fun k hk => hg.block k (by omega) (fun e => by
  rcases hrow k e.symm with ⟨j, _, _, h1, _, h2, h3⟩ | h
  ·have := (I.ob j (by omega) h1 h2 k h3).1
   omega
  ·have := (hC i k h).1; omega)⟩
 -- another one that is alive is untouched
 have hother : ∀ j, j < ops.size → j ≠ i → L j = true → (∀ k, (eatsAt eats k = some j) → (if k = i then true else L k) = false) → (owns.getD j false = true → ∀ g, rowOf ops eats cl a i = some g → ownB (valAt ops eats cl a j) ≠ some g) := by
  intro j hj hji hLj hal hoj g hgr
  rcases hrow g hgr with ⟨k, hk, _, h1, h2, h3, h4⟩ | h
  rotate_left
  ·intro hgj
   rcases (I.ob j hj hLj hoj g hgj).2.2 with h4 | ⟨j', _, hLj', hc⟩
   ·have := (hC i g h).2.1; omega
   ·have := (hC i g h).2.2 j' hc
    subst this
    rw [hL] at hLj'; cases hLj'
  have hkj : k ≠ j := by
   intro h; subst h
   have := hal i hk
   simp at this
  exact I.far k j (by have := S.back _ _ (S.eat i k hk).2.2.1; omega) hj hkj h1 hLj h3 hoj h2 (fun m hm => by have := hal m hm; split at this <;> first | exact this | cases this) g h4
 refine ⟨⟨I.below.trans hB, ?_, ?_, ?_, ?_, ?_, ?_, ?_, ?_⟩, by have := hg.size; omega⟩
 ·intro k hk hkc
  have h1 := I.still k hk (fun j hj hLj => hkc j hj (by simp [hLj]))
  have hks : k < w.heap.size := by have := I.below.size; omega
  rw [← h1]
  refine hg.block k hks (fun e => ?_)
  rcases hrow k e.symm with ⟨j, hje, hji, h1, _, h2, h3⟩ | h
  rotate_left
  ·exact hkc i hi (by simp) h
  rcases (I.ob j (by omega) h1 h2 k h3).2.2 with h4 | ⟨j', hj', hLj', hc⟩
  ·omega
  ·exact hkc j' hj' (by simp [hLj']) hc
 ·rw [← I.size]; unfold Act.put; cases dstAt ops i <;> simp
 ·rw [← I.defers]; unfold Act.put; cases dstAt ops i <;> rfl
 ·intro d hd
  have hre := I.rest d (fun j hj hjd => by have := hd j hj hjd; split at this <;> first | exact this | cases this)
  cases he : dstAt ops i with
  | none => exact hre
  | some e =>
   have hne : e ≠ d := fun h => by have := hd i hi (by rw [he, h]); simp at this
   show (a.tmps.setIfInBounds e v)[d]? = _
   rw [Array.getElem?_setIfInBounds_ne hne]
   exact hre
 ·intro j k hj hLj hb
  by_cases hji : j = i
  ·subst hji
   have := hdep k hb
   simp [this]
  ·simp [hji] at hLj
   have := I.closed j k hj hLj hb
   simp [this]
 ·intro j hj hLj hal
  by_cases hji : j = i
  ·subst hji; rw [hvi]; exact hR
  ·simp [hji] at hLj
   rw [hvj j hj hji hLj]
   refine hK j hj hji hLj _ w w' _ (I.fact j hj hLj (fun k hk => ?_)) hg hB (hother j hj hji hLj hal)
   have := hal k hk
   split at this <;> first | exact this | cases this
 ·intro j hj hLj hoj g hgj
  by_cases hji : j = i
  ·subst hji
   rw [hvi] at hgj
   obtain ⟨o1, o2, o3⟩ := ho hoj g hgj
   refine ⟨o1, o2, ?_⟩
   rcases o3 with h | h | h
   ·exact Or.inl (by have := I.below.size; omega)
   ·rcases hrow g h with ⟨k, _, hki, h1, _, h2, h3⟩ | h
    rotate_left
    ·exact Or.inr ⟨j, hj, by simp, h⟩
    rcases (I.ob k (by omega) h1 h2 g h3).2.2 with h4 | ⟨j', hj', hLj', hc⟩
    ·exact Or.inl h4
    ·exact Or.inr ⟨j', hj', by simp [hLj'], hc⟩
   ·exact Or.inr ⟨j, hj, by simp, h⟩
  ·simp [hji] at hLj
   rw [hvj j hj hji hLj] at hgj
   obtain ⟨o1, o2, o3⟩ := I.ob j hj hLj hoj g hgj
   refine ⟨o1, by have := hg.size; omega, ?_⟩
   rcases o3 with h | ⟨j', hj', hLj', hc⟩
   ·exact Or.inl h
   ·exact Or.inr ⟨j', hj', by simp [hLj'], hc⟩
 ·intro j k hj hk hjk hLj hLk hoj hok hal1 hal2 g hgj hgk
  have key : ∀ j, j < ops.size → j ≠ i → L j = true → owns.getD j false = true → (∀ k, (eatsAt eats k = some j) → (if k = i then true else L k) = false) → owns.getD i false = true → ownB v = some g → ownB (valAt ops eats cl a j) = some g → False := by
   intro j hj hji hLj hoj hal hoi hv hgj
   rcases (ho hoi g hv).2.2 with h | h | h
   ·have := (I.ob j hj hLj hoj g hgj).2.1; omega
   ·exact hother j hj hji hLj hal hoj g h hgj
   ·rcases (I.ob j hj hLj hoj g hgj).2.2 with h4 | ⟨j', _, hLj', hc⟩
    ·have := (hC i g h).2.1; omega
    ·have := (hC i g h).2.2 j' hc
     subst this
     rw [hL] at hLj'; cases hLj'
  by_cases hji : j = i
  ·subst hji
   have hkj : k ≠ j := Ne.symm hjk
   rw [hvi] at hgj
   simp [hkj] at hLk
   rw [hvj k hk hkj hLk] at hgk
   exact key k hk hkj hLk hok hal2 hoj hgj hgk
  ·by_cases hki : k = i
   ·subst hki
    rw [hvi] at hgk
    simp [hji] at hLj
    rw [hvj j hj hji hLj] at hgj
    exact key j hj hji hLj hoj hal1 hok hgk hgj
   ·simp [hji] at hLj
    simp [hki] at hLk
    rw [hvj j hj hji hLj] at hgj
    rw [hvj k hk hki hLk] at hgk
    exact I.far j k hj hk hjk hLj hLk hoj hok (fun m hm => by have := hal1 m hm; split at this <;> first | exact this | cases this) (fun m hm => by have := hal2 m hm; split at this <;> first | exact this | cases this) g hgj hgk
theorem any_ownL {n : Nat} (S : Shape md ops owns eats n) (hl : lastB md ops = true) (hK : ∀ i, i + 1 < ops.size → Keeps1 base (owns.getD i false) (rel Rs i)) {a0 : Act} (hn : a0.tmps.size = n) (hC : Claims cl base w0)
  (hW : WalkL P ops Q md Rs owns eats cl base w0 ops.toList 0 a0 []) : ∀ (fuel : Nat) (listed : Array Bool) (a : Act) (w : World), listed.size = ops.size → (List.range ops.size).countP (fun i => !listed.getD i false) ≤ fuel → base ≤ w.heap.size →
  Inv P ops md Rs owns eats cl base w0 a0 (fun i => listed.getD i false) a w → wpAny P md ops Q fuel listed a w := by
 have hWv : ∀ vs : Nat → Value, (∀ i, i < ops.size → pickV (dstAt ops i) (eatenV eats cl (vals vs i) i) (vs i) = vs i) → (∀ j o, ops[j]? = some o → DutyL P ops md Rs owns eats cl base w0 j o (acts ops a0 vs j) (vals vs j)) ∧ WalkL P ops Q md Rs owns eats cl base w0 [] ops.size (acts ops a0 vs ops.size) (vals vs ops.size) := by
  intro vs hv
  obtain ⟨h1, h2⟩ := walk_actsL a0 vs hv ops.toList 0 (by simp) hW
  exact ⟨fun j o ho => h1 j o (Nat.zero_le _) ho, h2 (Nat.zero_le _)⟩
 have hval0 : ∀ (a : Act) i, i < ops.size → dstAt ops i = none → eatenV eats cl (vals (valAt ops eats cl a) i) i = valAt ops eats cl a i := by
  intro a i hi hd
  unfold eatenV
  cases hk : eatsAt eats i with
  | none => unfold valAt; rw [hd, hk]
  | some k =>
  rw [valAt_eat S hd hk]
  exact vals_at _ (S.back _ _ (S.eat i k hk).2.2.1)
 have hpick : ∀ (a : Act) i, i < ops.size → pickV (dstAt ops i) (eatenV eats cl (vals (valAt ops eats cl a) i) i) (valAt ops eats cl a i) = valAt ops eats cl a i := by
  intro a i hi
  cases hd : dstAt ops i with
  | some d => rfl
  | none => exact hval0 a i hi hd
 have fin : ∀ (listed : Array Bool) (a : Act) (w : World), listed.size = ops.size → Inv P ops md Rs owns eats cl base w0 a0 (fun i => listed.getD i false) a w → Region.ready md ops listed = [] → Q .normal a w := by
  intro listed a w hls I hr
  have all : ∀ i, i < ops.size → listed.getD i false = true := by
   intro i
   induction i using Nat.strongRecOn with
   | _ i ih =>
    intro hi
    cases hli : listed.getD i false with
    | true => rfl
    | false =>
     have : i ∈ Region.ready md ops listed := by
      rw [mem_ready]
      refine ⟨by rw [← hli]; simp [Array.getD, hls, hi], ops[i], by simp [hi], fun e he hb => ?_⟩
      have hbf := S.deps i ops[i] (by simp [hi]) e he hb
      exact ih _ (S.back _ _ hbf) (by have := S.back _ _ hbf; omega)
     rw [hr] at this; cases this
  obtain ⟨_, h2⟩ := hWv (valAt ops eats cl a) (hpick a)
  have hact : acts ops a0 (valAt ops eats cl a) ops.size = a := by
   obtain ⟨s1, s2⟩ := acts_size (ops := ops) a0 (valAt ops eats cl a) ops.size
   have ht : (acts ops a0 (valAt ops eats cl a) ops.size).tmps = a.tmps := by
    apply Array.ext_getElem?
    intro d
    obtain ⟨k1, k2⟩ := acts_at S a0 hn (valAt ops eats cl a) d ops.size (Nat.le_refl _)
    by_cases hj : ∃ j, j < ops.size ∧ dstAt ops j = some d
    ·obtain ⟨j, hj, hjd⟩ := hj
     rw [k1 j hj hjd]
     have hen := S.dst j hj d hjd
     unfold valAt
     rw [hjd]
     have : d < a.tmps.size := by rw [I.size, hn]; exact hen
     simp [Array.getD, this]
    ·rw [k2 (fun k hk hkd => hj ⟨k, hk, hkd⟩)]
     exact (I.rest d (fun k hk hkd => absurd ⟨k, hk, hkd⟩ hj)).symm
   have hdf := s2.trans I.defers.symm
   generalize acts ops a0 (valAt ops eats cl a) ops.size = b at *
   obtain ⟨bt, bd⟩ := b
   obtain ⟨at', ad⟩ := a
   simp at ht hdf
   rw [ht, hdf]
  have := h2 w I.below (fun k hk hkc => I.still k hk (fun j _ _ => hkc j))
  rw [hact] at this
  refine this (fun j hj he => by
   rw [vals_at _ hj]
   exact I.fact j hj (all j hj) (fun k hk => by rw [eatsAt_eaten.2 ⟨k, hk⟩] at he; cases he))
 intro fuel
 induction fuel with
 | zero =>
  intro listed a w hls hc hb I
  have hr : Region.ready md ops listed = [] := by
   cases h : Region.ready md ops listed with
   | nil => rfl
   | cons i r =>
    exfalso
    have hi : i ∈ Region.ready md ops listed := by rw [h]; simp
    obtain ⟨h0, o, ho, _⟩ := mem_ready.1 hi
    have his := (Array.getElem?_eq_some_iff.1 ho).1
    have : 0 < (List.range ops.size).countP (fun i => !listed.getD i false) := List.countP_pos_iff.2 ⟨i, List.mem_range.2 his, by
     rw [show listed.getD i false = listed.getD i true by simp [Array.getD, hls, his], h0]; rfl⟩
    omega
  exact ⟨hr, fin listed a w hls I hr⟩
 | succ fuel ih =>
  intro listed a w hls hc hb I
  refine ⟨fin listed a w hls I, fun i hi => ?_⟩
  obtain ⟨h0, o, ho, hall⟩ := mem_ready.1 hi
  have his := (Array.getElem?_eq_some_iff.1 ho).1
  have hL : listed.getD i false = false := by rw [show listed.getD i false = listed.getD i true by simp [Array.getD, hls, his], h0]
  have hdep : ∀ j, beforeB md ops j i = true → listed.getD j false = true := by
   intro j hj
   obtain ⟨o', ho', e, he, hbd, rfl⟩ := before_iff.1 hj
   obtain rfl : o = o' := by rw [ho] at ho'; exact Option.some.inj ho'
   exact hall e he hbd
  have hds : o.dst = dstAt ops i := by simp [dstAt, ho]
  have hag := I.agrees S hn his hL hdep
  obtain ⟨hex, hwt⟩ := run_alike (ops := ops) (o := o) (S.sel i o · · ho) (a := a) (b := acts ops a0 (valAt ops eats cl a) i) (fun d hd => hag d (by unfold looksB; rw [ho]; simpa using hd))
  have hval : ∀ j, beforeB md ops j i = true → (vals (valAt ops eats cl a) i).getD j undef = valAt ops eats cl a j := fun j hj => vals_at _ (S.back _ _ hj)
  have hrow : rowV eats cl (vals (valAt ops eats cl a) i) i = rowOf ops eats cl a i := by
   unfold rowV rowOf
   cases hk : eatsAt eats i with
   | none => rfl
   | some k =>
    show ownB ((vals (valAt ops eats cl a) i).getD k undef) = ownB (valAt ops eats cl a k)
    rw [hval k (S.eat i k hk).2.2.1]
  have hnext : ∀ v w', Good Rs owns cl base (rowV eats cl (vals (valAt ops eats cl a) i) i) i w (pickV o.dst (eatenV eats cl (vals (valAt ops eats cl a) i) i) v) w' → wpAny P md ops Q fuel (listed.setIfInBounds i true) (a.put o.dst v) w' := by
   intro v w' G'
   rw [hrow] at G'
   obtain ⟨I', hb'⟩ := Inv.stepL S hn hC I hb (fun j hj hji hLj => by
    rcases Nat.lt_or_ge (j + 1) ops.size with h | h
    ·exact hK j h
    ·exfalso
     have h1 := last_all (L := fun i => listed.getD i false) (N := ops.size) (B := beforeB md ops) (fun i j => I.closed i j) (fun j k => S.back k j) (last_of hl) (fun q hq => by rw [show q = j by omega]; exact hLj) ops.size i his (by omega)
     have h1 : listed.getD i false = true := h1
     rw [hL] at h1; cases h1) his hL hdep (fun hd => by rw [hds, hd]; exact hval0 a i his hd) G'
   rw [← hds, put_pick] at I'
   refine ih _ _ _ (by simp [hls]) ?_ hb' ?_
   ·have : (List.range ops.size).countP (fun j => !(listed.setIfInBounds i true).getD j false) < (List.range ops.size).countP (fun j => !listed.getD j false) := by
     refine countP_lt _ i (List.mem_range.2 his) (by simp [hL]) (by simp [Array.getD, hls, his]) (fun j hj h => ?_)
     by_cases hji : i = j
     ·subst hji; simp [Array.getD, hls, his] at h
     ·simpa [Array.getD_eq_getD_getElem?, Array.getElem?_setIfInBounds_ne hji] using h
    omega
   ·have hfun : (fun j => (listed.setIfInBounds i true).getD j false) = fun j => if j = i then true else listed.getD j false := by
     funext j
     by_cases hji : j = i
     ·subst hji; simp [Array.getD, hls, his]
     ·simp [Array.getD_eq_getD_getElem?, Array.getElem?_setIfInBounds_ne (Ne.symm hji), hji]
    rw [hfun]
    exact I'
  have hduty := (hWv (valAt ops eats cl a) (hpick a)).1 i o ho w I.below
   (fun k hk hkc => I.still k hk (fun j hj hLj hc => by
    have hLj : listed.getD j false = true := hLj
    rcases hkc j hc with rfl | hjl
    ·rw [hL] at hLj; cases hLj
    ·have h1 := last_all (L := fun i => listed.getD i false) (N := ops.size) (B := beforeB md ops) (fun i j => I.closed i j) (fun j k => S.back k j) (last_of hl) (fun q hq => by rw [show q = j by omega]; exact hLj) ops.size i his (by omega)
     have h1 : listed.getD i false = true := h1
     rw [hL] at h1; cases h1))
   (fun j hj => by
    obtain ⟨hj, hjl⟩ := dep_of hj
    rw [hval j hj]
    have hji := S.back _ _ hj
    refine I.fact j (by omega) (hdep j hj) (fun k hk => ?_)
    cases hLk : listed.getD k false with
    | false => rfl
    | true =>
     exfalso
     have hLk : listed.getD k false = true := hLk
     have hks := (S.eat k j hk).1
     by_cases hki : k = i
     ·subst hki; rw [hL] at hLk; cases hLk
     ·obtain ⟨e, he⟩ := S.eatd k j hk
      have := (S.eat k j hk).2.2.2 i e his (Ne.symm hki) he (hjl e he)
      have h1 := I.closed k i hks hLk this
      have h1 : listed.getD i false = true := h1
      rw [hL] at h1; cases h1)
   (fun j hj hoj g hg => by
    obtain ⟨hj, hjl⟩ := dep_of hj
    rw [hval j hj] at hg
    have hji := S.back _ _ hj
    exact (I.ob j (by omega) (hdep j hj) hoj g hg).1)
   (fun a' w' => ∃ v, a' = (acts ops a0 (valAt ops eats cl a) i).put o.dst v ∧ Good Rs owns cl base (rowV eats cl (vals (valAt ops eats cl a) i) i) i w (pickV o.dst (eatenV eats cl (vals (valAt ops eats cl a) i) i) v) w') (fun v w' G => ⟨v, rfl, G⟩)
  have hG : ∀ u v w', (acts ops a0 (valAt ops eats cl a) i).put o.dst u = (acts ops a0 (valAt ops eats cl a) i).put o.dst v → Good Rs owns cl base (rowV eats cl (vals (valAt ops eats cl a) i) i) i w (pickV o.dst (eatenV eats cl (vals (valAt ops eats cl a) i) i) v) w' → Good Rs owns cl base (rowV eats cl (vals (valAt ops eats cl a) i) i) i w (pickV o.dst (eatenV eats cl (vals (valAt ops eats cl a) i) i) u) w' := by
   intro u v w' huv G
   cases hd : o.dst with
   | none => rw [hd] at G; exact G
   | some d =>
    rw [hd] at huv G
    have hdn := S.dst i his d (by rw [← hds]; exact hd)
    have h1 := congrArg (fun x => x.tmps[d]?) huv
    have hsz := (acts_size (ops := ops) a0 (valAt ops eats cl a) i).1
    have hlt : d < (acts ops a0 (valAt ops eats cl a) i).tmps.size := by rw [hsz, hn]; exact hdn
    simp [Act.put, hlt] at h1
    rw [h1]; exact G
  unfold wpOp
  simp only [ho]
  rw [hwt]
  split
  ·rename_i hw
   rw [if_pos hw] at hduty
   refine Or.inl (Oper.wp_mono (fun a' w' h => ?_) (oper_alike hex hG hduty))
   obtain ⟨v, rfl, G⟩ := h
   exact hnext v w' G
  ·rename_i hw
   rw [if_neg hw] at hduty
   obtain ⟨v, h1, G⟩ := hduty
   exact hnext undef w (hG _ _ _ h1 G)
theorem region_ownL {id : Nat} {n : Nat} {a0 : Act} {w : World} (Rs : List Rel) (owns : List Bool) (eats : List (Option Nat)) (cl : Nat → Option Nat) (base : Nat) (hbs : base ≤ w.heap.size) (hC : Claims cl base w.drew) (hm : P.follows .mixedOrders = true) (hn : a0.tmps.size = n) (hs : shapeB .any ops owns eats n = true) (hl : lastB .any ops = true)
  (hK : ∀ i, i + 1 < ops.size → Keeps1 base (owns.getD i false) (rel Rs i)) (hW : WalkL P ops Q .any Rs owns eats cl base w.drew ops.toList 0 a0 []) : (Code.region id ops true).wp P Q a0 w := by
 refine wp_region_any hm (any_ownL (w0 := w.drew) (base := base) (shape_of hs) hl hK hn hC hW ops.size _ a0 w.drew (by simp) ?_ hbs ?_)
 ·exact Nat.le_trans List.countP_le_length (by simp)
 ·refine ⟨Below.refl _ _, fun _ _ _ => rfl, rfl, rfl, fun _ _ => rfl, ?_, ?_, ?_, ?_⟩
  all_goals
   intros
   rename_i h _
   simp [Array.getD] at *
end
theorem walk_consL {P : Program} {ops : Array Oper} {Q : Exit → Act → World → Prop} {md : Region.Mode} {Rs : List Rel} {owns : List Bool} {eats : List (Option Nat)} {cl : Nat → Option Nat} {base : Nat} {w0 : World} {l r : List Oper} {o : Oper} {i : Nat} {a : Act} {vs : List Value} {f : Value → Act} {us : Value → List Value}
  (hl : l = o :: r) (h : DutyL P ops md Rs owns eats cl base w0 i o a vs) (hf : ∀ v, a.put o.dst v = f v) (hu : ∀ v, vs ++ [pickV o.dst (eatenV eats cl vs i) v] = us v) (hr : ∀ v, WalkL P ops Q md Rs owns eats cl base w0 r (i + 1) (f v) (us v)) : WalkL P ops Q md Rs owns eats cl base w0 l i a vs := by
 subst hl; exact ⟨h, fun v => by rw [hf, hu]; exact hr v⟩
theorem walk_nilL {P : Program} {ops : Array Oper} {Q : Exit → Act → World → Prop} {md : Region.Mode} {Rs : List Rel} {owns : List Bool} {eats : List (Option Nat)} {cl : Nat → Option Nat} {base : Nat} {w0 : World} {l : List Oper} {i : Nat} {a : Act} {vs : List Value}
  (hl : l = []) (h : ∀ w, Below base w0 w → (∀ k, k < w0.heap.size → (∀ j, cl j ≠ some k) → w.heap[k]? = w0.heap[k]?) → (∀ j, (Nat.blt j ops.size && !eatenB eats j) = true → rel Rs j (vs.getD j undef) w) → Q .normal a w) : WalkL P ops Q md Rs owns eats cl base w0 l i a vs := by
 subst hl
 refine fun w hb hu hd => h w hb hu fun j hj => ?_
 rw [Bool.and_eq_true] at hj
 exact hd j (by simpa using hj.1) (by simpa using hj.2)
def KeepsI (base : Nat) : List Bool → List Rel → Prop
 | o :: os, R :: R' :: rs => Keeps1 base o R ∧ KeepsI base os (R' :: rs)
 | _, _ => True
theorem KeepsI.all {base : Nat} : ∀ (os : List Bool) (rs : List Rel), os.length = rs.length → KeepsI base os rs → ∀ i, i + 1 < rs.length → Keeps1 base (os.getD i false) (rel rs i)
 | o :: os, R :: R' :: rs, _, h, 0, _ => h.1
 | o :: os, R :: R' :: rs, hl, h, i + 1, hi => KeepsI.all os (R' :: rs) (by simpa using hl) h.2 i (by simpa using hi)
 | [], [], _, _, _, hi => by simp at hi
 | [_], [_], _, _, _, hi => by simp at hi
def cl2 (v : Value) (b kr kb : Nat) : Nat → Option Nat := fun i => if i = kr then v.ownBlock else if i = kb then some b else none
theorem cl2_row {v : Value} {b kr kb : Nat} : cl2 v b kr kb kr = v.ownBlock := by simp [cl2]
theorem cl2_cases {v : Value} {b kr kb i g : Nat} (h : cl2 v b kr kb i = some g) : (i = kr ∧ v.ownBlock = some g) ∨ (i = kb ∧ g = b) := by
 unfold cl2 at h
 split at h
 ·rename_i hi; exact Or.inl ⟨hi, h⟩
 ·split at h
  ·rename_i hi; exact Or.inr ⟨hi, (Option.some.inj h).symm⟩
  ·cases h
theorem claims_two {base : Nat} {w0 : World} {e : TypeId} {size n : Nat} {xs : List Value} {v : Value} {b kr kb : Nat} (hx : w0.ownsRow base e size v n xs) (hb : base ≤ b) (hbl : b < w0.heap.size) (hv : v.ownBlock ≠ some b) : Claims (cl2 v b kr kb) base w0 := by
 intro i g h
 rcases cl2_cases h with ⟨rfl, h1⟩ | ⟨rfl, rfl⟩
 ·have := hx.lt g h1
  refine ⟨this.1, this.2, fun j hj => ?_⟩
  rcases cl2_cases hj with ⟨rfl, _⟩ | ⟨_, rfl⟩
  ·rfl
  ·exact absurd h1 hv
 ·refine ⟨hb, hbl, fun j hj => ?_⟩
  rcases cl2_cases hj with ⟨_, h2⟩ | ⟨rfl, _⟩
  ·exact absurd h2 hv
  ·rfl
theorem region_two {P : Program} {ops : Array Oper} {Q : Exit → Act → World → Prop} {id : Nat} {a0 : Act} {w : World} (n : Nat) (Rs : List Rel) (owns : List Bool) (eats : List (Option Nat)) (base kr kb b : Nat) {e : TypeId} {size m : Nat} {xs : List Value} (v : Value) (hx : w.ownsRow base e size v m xs) (hv : v.ownBlock ≠ some b) (hb : base ≤ b) (hbl : b < w.heap.size) (hm : P.follows .mixedOrders = true) (hn : a0.tmps.size = n) (hs : shapeB .any ops owns eats n = true)
  (hl : lastB .any ops = true) (ho : owns.length = Rs.length) (hr : ops.size = Rs.length) (hK : KeepsI base owns Rs) (hW : WalkL P ops Q .any Rs owns eats (cl2 v b kr kb) base w.drew ops.toList 0 a0 []) : (Code.region id ops true).wp P Q a0 w :=
 region_ownL Rs owns eats _ base (by omega) (claims_two (w0 := w.drew) (own_same hx (fun _ _ => rfl)) hb hbl hv) hm hn hs hl (fun i hi => KeepsI.all _ _ ho hK i (by omega)) hW
end Oz
end Go.Proofs.YtdooeonilbpfgaaGreatDoor
