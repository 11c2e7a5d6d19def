/- Own texts, joined: Xa, A8, Bb, Yr, Ub, Xb. -/
import Derived.Test.YtcnfcililiehlaaGreatDoorR4
import Derived.Test.YtcnfcililiehlaaGreatDoorR5
import Derived.Test.YtcnfcililiehlaaGreatDoorR7
import Derived.RangeFuncBox
namespace Go.Proofs.YtcnfcililiehlaaGreatDoor.Ch.Vd
abbrev KV := Go.Proofs.YtcnfcililiehlaaGreatDoor.VM
def vm (v : VM) : KV := ⟨v.nm, v.kd, v.lo, v.hi, v.ik, v.ia, v.ib⟩
def vmL (c : CH) : List KV := c.vs.map vm
def dC (ss : List SC) (i : Nat) : Int := match ss[i]? with | some s => s.dp | none => 0
def kC (ss : List SC) (i : Nat) : Int := match ss[i]? with | some s => s.kd | none => 0
def iniC (ss : List SC) (i : Nat) : List UInt8 := match ss[i]? with | some s => s.ini | none => []
theorem kC_at {ss : List SC} {i : Nat} (h : i < ss.length) : kC ss i = ss[i].kd := by unfold kC; rw [List.getElem?_eq_getElem h]
theorem iniC_at {ss : List SC} {i : Nat} (h : i < ss.length) : iniC ss i = ss[i].ini := by unfold iniC; rw [List.getElem?_eq_getElem h]
def isS (n : List UInt8) (s : SC) : Bool := decide (s.nm = n)
def placeC (ss : List SC) (n : List UInt8) : Int := ixP (isS n) ss 0
def firF (f : Nat -> Int) : Nat -> Nat -> Int
 | 0, _ => 0
 | m + 1, k => if f k ≠ 0 then f k else firF f m (k + 1)
def firE (f : Nat -> Int) (n : Nat) : Int := firF f n 0
theorem firF_step (f : Nat -> Int) {n k : Nat} (hk : k < n) : firF f (n - k) k = if f k ≠ 0 then f k else firF f (n - (k + 1)) (k + 1) := by
 obtain ⟨m, hm⟩ : ∃ m, n - k = m + 1 := ⟨n - k - 1, by omega⟩
 rw [hm, show n - (k + 1) = m by omega]; rfl
theorem firF_end (f : Nat -> Int) {n k : Nat} (hk : ¬ k < n) : firF f (n - k) k = 0 := by rw [show n - k = 0 by omega]; rfl
theorem firF_zero (f : Nat -> Int) : ∀ m k, firF f m k = 0 ↔ ∀ i, k <= i -> i < k + m -> f i = 0
 | 0, k => ⟨fun _ i h1 h2 => by omega, fun _ => rfl⟩
 | m + 1, k => by
  unfold firF;by_cases h : f k ≠ 0
  ·rw [if_pos h];exact ⟨fun e => absurd e h, fun e => e k (Nat.le_refl _) (by omega)⟩
  ·rw [if_neg h, firF_zero f m (k + 1)];constructor
   ·intro e i h1 h2;by_cases hi : i = k
    ·subst hi; exact Classical.not_not.1 h
    ·exact e i (by omega) (by omega)
   ·exact fun e i h1 h2 => e i (by omega) (by omega)
theorem firE_zero {f : Nat -> Int} {n : Nat} : firE f n = 0 ↔ ∀ i, i < n -> f i = 0 := by
 unfold firE;rw [firF_zero];exact ⟨fun h i hi => h i (Nat.zero_le _) (by omega), fun h i _ hi => h i (by omega)⟩
def orE (a b : Int) : Int := if a ≠ 0 then a else b
theorem orE_zero {a b : Int} : orE a b = 0 ↔ a = 0 /\ b = 0 := by
 unfold orE;by_cases h : a = 0
 ·rw [if_neg (fun k => k h)]; exact ⟨fun k => ⟨h, k⟩, fun k => k.2⟩
 ·rw [if_pos h]; exact ⟨fun k => absurd k h, fun k => absurd k.1 h⟩
def unE (b : Bool) (e : Int) : Int := if b = true then 0 else e
def shortB (c : CH) : Bool := decide (c.es.length <= 12) && (decide (c.vs.length <= 8) && (decide (c.ss.length <= 40) && decide (c.ts.length <= 48)))
def varN (c : CH) : List (List UInt8) := c.vs.map VM.nm
def stN (c : CH) : List (List UInt8) := c.ss.map SC.nm
def namedB (c : CH) : Bool := nameB c.nm && (c.es.all nameB && ((varN c).all nameB && (stN c).all nameB))
def apartL (l : List (List UInt8)) : Bool := decide l.Nodup
def apartB (c : CH) : Bool := apartL c.es && (apartL (varN c) && apartL (stN c))
def beginP (ss : List SC) (i : Nat) (k : Int) : Prop :=
 k ≠ -1 /\ ¬ Tr.pastP (kC ss k.toNat) /\ ((kC ss i = 2 /\ Tr.par (dC ss) k.toNat = (i : Int)) \/ (kC ss i = 5 /\ Tr.par (dC ss) k.toNat = Tr.par (dC ss) i) \/ (kC ss i = 6 /\ Tr.wi (dC ss) (Tr.par (dC ss) i).toNat k.toNat))
noncomputable instance {ss : List SC} {i : Nat} {k : Int} : Decidable (beginP ss i k) := Classical.propDecidable _
noncomputable def initE (ss : List SC) (i : Nat) : Int :=
 if kC ss i ≠ 2 /\ ¬ Tr.pastP (kC ss i) then (if iniC ss i = [] then 0 else 1) else if beginP ss i (placeC ss (iniC ss i)) then 0 else 2
def bndB (v : VM) : Bool :=
 if v.kd = 2 then decide (v.lo = 0) && decide (v.hi = 1) else if v.kd = 3 then decide (-1048576 <= v.lo) && (decide (v.lo <= v.hi) && decide (v.hi <= 1048576)) else decide (-1099511627776 <= v.lo) && (decide (v.lo <= v.hi) && decide (v.hi <= 1099511627776))
def holdB (v : VM) (x : VA) : Bool := (decide (v.lo <= x.a) && decide (x.a <= v.hi)) && (decide (v.kd ≠ 3) || (decide (v.lo <= x.b) && decide (x.b <= v.hi)))
def inV (v : VM) : VA := ⟨v.ik, v.ia, v.ib⟩
def varE (v : VM) : Int := if ¬ (1 <= v.kd /\ v.kd <= 3) \/ v.ik ≠ v.kd then 8 else unE (bndB v && (rightV (inV v) && holdB v (inV v))) 5
def ofE (want : Int) (c : CH) (names : List (List UInt8)) (cs : List CM) : Int :=
 if (kindP (vmL c) names cs).2 ≠ 0 then (kindP (vmL c) names cs).2 else if (kindP (vmL c) names cs).1 = want then 0 else 8
def kdV (vs : List KV) (i : Int) : Int := match vs[i.toNat]? with | some v => v.kd | none => 0
def actE (c : CH) (a : AM) : Int :=
 if a.kd ≠ 1 then (if a.nm ∈ c.es then 0 else 2) else if ixP (isV a.nm) (vmL c) 0 = -1 then 2 else ofE (kdV (vmL c) (ixP (isV a.nm) (vmL c) 0)) c [] a.ex
def actAt (c : CH) (l : List AM) (i : Nat) : Int := match l[i]? with | some a => actE c a | none => 0
def blockE (c : CH) (l : List AM) : Int := if l = [] then 0 else if rightA l = false then 1 else firE (actAt c l) l.length
def blocksE (c : CH) (s : SC) : Int := if (Tr.pastP s.kd /\ s.en ≠ []) \/ ((Tr.pastP s.kd \/ s.kd = 4) /\ s.ex ≠ []) then 1 else orE (blockE c s.en) (blockE c s.ex)
def blocksAt (c : CH) (i : Nat) : Int := match c.ss[i]? with | some s => blocksE c s | none => 0
def varAt (c : CH) (i : Nat) : Int := match c.vs[i]? with | some v => varE v | none => 0
def nhC (ss : List SC) : List (List UInt8) := (ss.filter fun s => !decide (Tr.pastP s.kd)).map SC.nm
def guardE (c : CH) (l : List CM) : Int := if l = [] then 0 else ofE 2 c (nhC c.ss) l
def wError : List UInt8 := [101, 114, 114, 111, 114]
def wDone : List UInt8 := [100, 111, 110, 101, 46]
def waitP (c : CH) (e : List UInt8) : Prop := e = [] \/ e = wError \/ e ∈ c.es \/ ∃ s ∈ c.ss, Tr.parentP s.kd /\ e = wDone ++ s.nm
noncomputable instance {c : CH} {e : List UInt8} : Decidable (waitP c e) := Classical.propDecidable _
noncomputable def targE (c : CH) (t : TC) : Int :=
 if t.to = [] then 0 else if placeC c.ss t.to = -1 then 2 else if Tr.dom (dC c.ss) (kC c.ss) t.fr.toNat (placeC c.ss t.to).toNat ≠ -1 then 0 else 9
noncomputable def tE (c : CH) (t : TC) : Int := if ¬ waitP c t.ev then 2 else orE (guardE c t.gd) (orE (targE c t) (blockE c t.ac))
def frC (ts : List TC) (i : Nat) : Int := match ts[i]? with | some t => t.fr | none => 0
def fromP (c : CH) (t : TC) : Prop := 0 <= t.fr /\ t.fr < c.ss.length /\ (kC c.ss t.fr.toNat = 1 \/ Tr.parentP (kC c.ss t.fr.toNat))
def standP (c : CH) (i : Nat) : Prop := match c.ts[i]? with | some t => fromP c t /\ (0 < i -> frC c.ts (i - 1) <= t.fr) | none => False
noncomputable instance {c : CH} {i : Nat} : Decidable (standP c i) := Classical.propDecidable _
noncomputable def transE (c : CH) (i : Nat) : Int := if ¬ standP c i then 1 else match c.ts[i]? with | some t => tE c t | none => 0
def treeP (c : CH) : Prop := Tr.RightP (dC c.ss) (kC c.ss) c.ss.length
noncomputable instance {c : CH} : Decidable (treeP c) := Classical.propDecidable _
noncomputable def partsE (c : CH) : Int := orE (firE (initE c.ss) c.ss.length) (orE (firE (varAt c) c.vs.length) (orE (firE (blocksAt c) c.ss.length) (firE (transE c) c.ts.length)))
noncomputable def checkE (c : CH) : Int :=
 if shortB c = false then 4 else if namedB c = false then 2 else if apartB c = false then 3 else if ¬ treeP c then 9 else partsE c
structure Valid (c : CH) : Prop where
 short : shortB c = true
 named : namedB c = true
 apart : apartB c = true
 tree : treeP c
 init : ∀ i, i < c.ss.length -> initE c.ss i = 0
 vars : ∀ v ∈ c.vs, varE v = 0
 blocks : ∀ s ∈ c.ss, blocksE c s = 0
 stand : ∀ i, i < c.ts.length -> standP c i
 trans : ∀ t ∈ c.ts, tE c t = 0
theorem check_zero {c : CH} : checkE c = 0 ↔ Valid c := by
 unfold checkE;constructor
 ·intro h;by_cases h1 : shortB c = false
  ·rw [if_pos h1] at h; cases h
  rw [if_neg h1] at h;by_cases h2 : namedB c = false
  ·rw [if_pos h2] at h; cases h
  rw [if_neg h2] at h;by_cases h3 : apartB c = false
  ·rw [if_pos h3] at h; cases h
  rw [if_neg h3] at h;by_cases h4 : ¬ treeP c
  ·rw [if_pos h4] at h; cases h
  rw [if_neg h4] at h;unfold partsE at h;rw [orE_zero, orE_zero, orE_zero, firE_zero, firE_zero, firE_zero, firE_zero] at h;obtain ⟨a, b, d, e⟩ := h;have hst : ∀ i, i < c.ts.length -> standP c i := fun i hi => by
   have := e i hi;unfold transE at this;by_cases hs : ¬ standP c i
   ·rw [if_pos hs] at this; cases this
   ·exact Classical.not_not.1 hs
  refine ⟨by simpa using h1, by simpa using h2, by simpa using h3, Classical.not_not.1 h4, a, fun v hv => ?_, fun s hs => ?_, hst, fun t ht => ?_⟩
  ·obtain ⟨i, hi, rfl⟩ := List.getElem_of_mem hv;have := b i hi;unfold varAt at this
   rwa [List.getElem?_eq_getElem hi] at this
  ·obtain ⟨i, hi, rfl⟩ := List.getElem_of_mem hs;have := d i hi;unfold blocksAt at this
   rwa [List.getElem?_eq_getElem hi] at this
  ·obtain ⟨i, hi, rfl⟩ := List.getElem_of_mem ht;have := e i hi;unfold transE at this;rw [if_neg (fun k => k (hst i hi)), List.getElem?_eq_getElem hi] at this;exact this
 ·intro h;rw [if_neg (by rw [h.short]; decide), if_neg (by rw [h.named]; decide), if_neg (by rw [h.apart]; decide), if_neg (fun k => k h.tree)];unfold partsE;rw [orE_zero, orE_zero, orE_zero, firE_zero, firE_zero, firE_zero, firE_zero];refine ⟨h.init, fun i hi => ?_, fun i hi => ?_, fun i hi => ?_⟩
  ·unfold varAt; rw [List.getElem?_eq_getElem hi]; exact h.vars _ (List.getElem_mem hi)
  ·unfold blocksAt; rw [List.getElem?_eq_getElem hi]; exact h.blocks _ (List.getElem_mem hi)
  ·unfold transE; rw [if_neg (fun k => k (h.stand i hi)), List.getElem?_eq_getElem hi]; exact h.trans _ (List.getElem_mem hi)
end Go.Proofs.YtcnfcililiehlaaGreatDoor.Ch.Vd
namespace Go.Proofs.YtcnfcililiehlaaGreatDoor
open Go.RowKit
def ParsedPost (l : List AM) (er : Int) (w : World) (e : Ending) (w' : World) : Prop :=
 ∃ v ps, e = .returned (.tuple #[v, .int .i64 er]) /\ ps.map Prod.fst = l /\ w'.ownsRow w.heap.size 116 3 v ps.length (flatA ps) /\ (∀ p ∈ ps, ActO w.heap.size w' p) /\ Below w.heap.size w w'
end Go.Proofs.YtcnfcililiehlaaGreatDoor
namespace Go.Proofs.YtcnfcililiehlaaGreatDoor.Ch
open Go.RowKit
def vaV (v : VM) : List Value := [bstr v.nm, .int .i64 v.kd, .int .i64 v.lo, .int .i64 v.hi, .int .i64 v.ik, .int .i64 v.ia, .int .i64 v.ib]
def flatV (vs : List VM) : List Value := vs.flatMap vaV
abbrev SP := SC × Value × Value
def stV (p : SP) : List Value := [bstr p.1.nm, .int .i64 p.1.kd, .int .i64 p.1.dp, bstr p.1.ini, p.2.1, p.2.2]
def flatS (ps : List SP) : List Value := ps.flatMap stV
abbrev TP := TC × Value × Value
def trV (p : TP) : List Value := [.int .i64 p.1.fr, bstr p.1.ev, p.2.1, bstr p.1.to, p.2.2]
def flatT (ps : List TP) : List Value := ps.flatMap trV
def strsV (l : List (List UInt8)) : List Value := l.map bstr
theorem flatM_at {α : Type} (f : α -> List Value) (k : Nat) (hf : ∀ a, (f a).length = k) {l : List α} {i : Nat} (h : i < l.length) {j : Nat} (hj : j < k) : (l.flatMap f)[i * k + j]? = (f l[i])[j]? := by
 induction l generalizing i with
 | nil => simp at h
 | cons a r ih =>
  rw [List.flatMap_cons];cases i with
  | zero => rw [List.getElem?_append_left (by rw [hf]; omega)]; simp
  | succ q =>
   rw [List.getElem?_append_right (by rw [hf, Nat.succ_mul]; omega), hf];have e : (q + 1) * k + j - k = q * k + j := by rw [Nat.succ_mul]; omega
   rw [e];exact ih (by simpa using h)
theorem Tryz.infoVar : (Tryz.prog.info? 86).map (fun i => (i.zero, i.size, i.bytes)) = some (some (.agg #[.string ByteArray.empty, .int .i64 0, .int .i64 0, .int .i64 0, .int .i64 0, .int .i64 0, .int .i64 0]), 7, 64) := by kernel_rfl
theorem Tryz.infoState : (Tryz.prog.info? 50).map (fun i => (i.zero, i.size, i.bytes)) = some (some (.agg #[.string ByteArray.empty, .int .i64 0, .int .i64 0, .string ByteArray.empty, .slice none 0 0, .slice none 0 0]), 6, 96) := by kernel_rfl
theorem Tryz.infoTrans : (Tryz.prog.info? 121).map (fun i => (i.zero, i.size, i.bytes)) = some (some (.agg #[.int .i64 0, .string ByteArray.empty, .slice none 0 0, .string ByteArray.empty, .slice none 0 0]), 5, 88) := by kernel_rfl
def KeepI (w w' : World) : Prop := w.heap.size <= w'.heap.size /\ ∀ (k : Nat) (cur : Array Value) (t : TypeId), (t = 116 \/ t = 176) -> w.heap[k]? = some (Obj.cells cur t (0, 0)) -> w'.heap[k]? = some (Obj.cells cur t (0, 0))
theorem lt_of_heap {w : World} {k : Nat} {o : Obj} (h : w.heap[k]? = some o) : k < w.heap.size := (Array.getElem?_eq_some_iff.1 h).1
theorem KeepI.of_below {w w' : World} (h : Below w.heap.size w w') : KeepI w w' := ⟨h.size, fun k _ _ _ hk => (h.block k (lt_of_heap hk)).trans hk⟩
theorem KeepI.of_grown {w w' : World} {g : Nat} {cur : Array Value} {t : TypeId} {z : Nat × Nat} (h : w.grownBy w' (some g)) (hg : w.heap[g]? = some (.cells cur t z)) (h1 : t ≠ 116) (h2 : t ≠ 176) : KeepI w w' :=
 ⟨h.size, fun k cur' t' ht hk => (h.block k (lt_of_heap hk) (fun e => by
  have e := Option.some.inj e;subst e;rw [hg] at hk;injection hk with hk
  injection hk with _ hk _
  subst hk;rcases ht with ht | ht
  ·exact h1 ht
  ·exact h2 ht)).trans hk⟩
theorem KeepI.own {w w' : World} {B : Nat} {e : TypeId} {size n : Nat} {v : Value} {xs : List Value} (hk : KeepI w w') (h : w.ownsRow B e size v n xs) (he : e = 116 \/ e = 176) : w'.ownsRow B e size v n xs := by
 obtain ⟨h0, h | ⟨g, cap, cur, h1, h2, h3, h4⟩⟩ := h
 ·exact ⟨h0, Or.inl h⟩
 ·exact ⟨h0, Or.inr ⟨g, cap, cur, h1, h2, hk.2 g cur e he h3, h4⟩⟩
def BlkO (B : Nat) (w : World) (v : Value) (l : List AM) : Prop := ∃ al : List AP, al.map Prod.fst = l /\ w.ownsRow B 116 3 v al.length (flatA al) /\ ∀ p ∈ al, ActO B w p
theorem BlkO.keep {B : Nat} {w w' : World} {v : Value} {l : List AM} (h : BlkO B w v l) (hk : KeepI w w') : BlkO B w' v l := by
 obtain ⟨al, h1, h2, h3⟩ := h;exact ⟨al, h1, hk.own h2 (Or.inl rfl), fun p hp => ⟨hk.own (h3 p hp).own (Or.inr rfl), (h3 p hp).len, (h3 p hp).names, (h3 p hp).name⟩⟩
theorem BlkO.nil (B : Nat) (w : World) : BlkO B w (.slice none 0 0) [] := ⟨[], rfl, World.ownsRow_nil _ _ _ _, fun p hp => by cases hp⟩
theorem BlkO.form {B : Nat} {w : World} {v : Value} {l : List AM} (h : BlkO B w v l) : ∃ A c, v = .slice A l.length c := by
 obtain ⟨al, h1, h2, _⟩ := h;obtain ⟨A, c, e⟩ := own_slice h2;exact ⟨A, c, by rw [e, <- h1, List.length_map]⟩
structure GdO (B : Nat) (w : World) (v : Value) (cs : List CM) : Prop where
 own : w.ownsRow B 176 3 v cs.length (flat cs)
 len : cs.length * 32 <= 140737488355328
 names : Names cs
theorem GdO.keep {B : Nat} {w w' : World} {v : Value} {cs : List CM} (h : GdO B w v cs) (hk : KeepI w w') : GdO B w' v cs := ⟨hk.own h.own (Or.inr rfl), h.len, h.names⟩
theorem GdO.nil (B : Nat) (w : World) : GdO B w (.slice none 0 0) [] := ⟨World.ownsRow_nil _ _ _ _, by simp, fun c hc => by cases hc⟩
structure KeptB (b B : Nat) (w w' : World) : Prop where
 os : w'.os = w.os
 tape : w'.tape = w.tape
 output : w'.output = w.output
 size : w.heap.size <= w'.heap.size
 block : ∀ k, k < B -> k ≠ b -> w'.heap[k]? = w.heap[k]?
 others : ∀ (k : Nat) (o : Obj), w.heap[k]? = some o -> o.isCells = false -> w'.heap[k]? = some o
theorem KeptB.trans {b B : Nat} {x y z : World} (h : KeptB b B x y) (k : KeptB b B y z) : KeptB b B x z :=
 ⟨k.os.trans h.os, k.tape.trans h.tape, k.output.trans h.output, Nat.le_trans h.size k.size, fun i hi hb => (k.block i hi hb).trans (h.block i hi hb), fun i o h1 h2 => k.others i o (h.others i o h1 h2) h2⟩
theorem KeptB.of_below {b B : Nat} {w w' : World} (h : Below w.heap.size w w') (hB : B <= w.heap.size) : KeptB b B w w' := ⟨h.os, h.tape, h.output, h.size, fun k hk _ => h.block k (Nat.lt_of_lt_of_le hk hB), fun k _ h1 _ => (h.block k (lt_of_heap h1)).trans h1⟩
theorem KeptB.of_grown {b B : Nat} {w w' : World} {row : Option Nat} (h : w.grownBy w' row) (hB : B <= w.heap.size) (hr : ∀ g, row = some g -> g = b \/ B <= g) (hc : ∀ g, row = some g -> ∃ (cur : Array Value) (t : TypeId) (z : Nat × Nat), w.heap[g]? = some (.cells cur t z)) : KeptB b B w w' :=
 ⟨h.os, h.tape, h.output, h.size, fun k hk hb => h.block k (Nat.lt_of_lt_of_le hk hB) (fun e => by rcases hr k e.symm with h | h <;> omega), fun k o h1 h2 => (h.block k (lt_of_heap h1) (fun e => by obtain ⟨_, _, _, h3⟩ := hc k e.symm; rw [h3] at h1; cases h1; cases h2)).trans h1⟩
theorem KeptB.below {b B B0 : Nat} {w w' : World} (h : KeptB b B w w') (h1 : B0 <= b) (h2 : B0 <= B) : Below B0 w w' := ⟨h.os, h.tape, h.output, h.size, fun k hk => h.block k (by omega) (by omega)⟩
structure OwnCh (b B : Nat) (t : TypeId) (w : World) (c : CH) (eV vV sV tV : Value) (sp : List SP) (tp : List TP) : Prop where
 box : w.heap[b]? = some (.cells #[bstr c.nm, eV, vV, sV, tV] t (0, 0))
 lt : b < B
 le : B <= w.heap.size
 es : w.ownsRow B 9 1 eV c.es.length (strsV c.es)
 vs : w.ownsRow B 86 7 vV c.vs.length (flatV c.vs)
 ssE : sp.map Prod.fst = c.ss
 ss : w.ownsRow B 50 6 sV sp.length (flatS sp)
 tsE : tp.map Prod.fst = c.ts
 ts : w.ownsRow B 121 5 tV tp.length (flatT tp)
 sd : ∀ p ∈ sp, BlkO B w p.2.1 p.1.en /\ BlkO B w p.2.2 p.1.ex
 td : ∀ p ∈ tp, GdO B w p.2.1 p.1.gd /\ BlkO B w p.2.2 p.1.ac
def Rdr (b B : Nat) (t : TypeId) (w : World) (c : CH) : Prop := ∃ eV vV sV tV sp tp, OwnCh b B t w c eV vV sV tV sp tp
section
variable {b B : Nat} {t : TypeId} {w w' : World} {c : CH} {eV vV sV tV : Value} {sp : List SP} {tp : List TP}
theorem OwnCh.below (h : OwnCh b B t w c eV vV sV tV sp tp) (hb : Below w.heap.size w w') : OwnCh b B t w' c eV vV sV tV sp tp := by
 have hk := KeepI.of_below hb;exact ⟨(hb.block b (Nat.lt_of_lt_of_le h.lt h.le)).trans h.box, h.lt, Nat.le_trans h.le hb.size, own_below h.es hb, own_below h.vs hb, h.ssE, own_below h.ss hb, h.tsE, own_below h.ts hb,
  fun p hp => ⟨(h.sd p hp).1.keep hk, (h.sd p hp).2.keep hk⟩, fun p hp => ⟨(h.td p hp).1.keep hk, (h.td p hp).2.keep hk⟩⟩
theorem OwnCh.cells (h : OwnCh b B t w c eV vV sV tV sp tp) : w.cell? ⟨b, 0, none⟩ = some (bstr c.nm) /\ w.cell? ⟨b, 1, none⟩ = some eV /\ w.cell? ⟨b, 2, none⟩ = some vV /\ w.cell? ⟨b, 3, none⟩ = some sV /\ w.cell? ⟨b, 4, none⟩ = some tV := by
 have := h.box;refine ⟨?_, ?_, ?_, ?_, ?_⟩ <;> (unfold World.cell?; rw [this]; rfl)
theorem OwnCh.frozen (h : OwnCh b B t w c eV vV sV tV sp tp) (j : Nat) : w.frozen? ⟨b, j, none⟩ = false := by simp [World.frozen?, h.box]
end
end Go.Proofs.YtcnfcililiehlaaGreatDoor.Ch
namespace Go.Proofs.YtcnfcililiehlaaGreatDoor.Ch
open Go.RowKit
def BlkR (w : World) (v : Value) (l : List AM) : Prop := ∃ ps : List AP, ps.map Prod.fst = l /\ RdA w v ps /\ ps.length <= 9223372036854775807
theorem BlkR.below {w w' : World} {v : Value} {l : List AM} (h : BlkR w v l) (hb : Below w.heap.size w w') : BlkR w' v l := by
 obtain ⟨ps, h1, h2, h3⟩ := h; exact ⟨ps, h1, h2.below hb, h3⟩
def GdR (w : World) (v : Value) (cs : List CM) : Prop := RdI w v cs /\ cs.length * 32 <= 140737488355328
theorem GdR.below {w w' : World} {v : Value} {cs : List CM} (h : GdR w v cs) (hb : Below w.heap.size w w') : GdR w' v cs := ⟨h.1.below hb, h.2⟩
def StR (w : World) (p : SP) : Prop := BlkR w p.2.1 p.1.en /\ BlkR w p.2.2 p.1.ex
def TrR (w : World) (p : TP) : Prop := GdR w p.2.1 p.1.gd /\ BlkR w p.2.2 p.1.ac
theorem StR.below {w w' : World} {p : SP} (h : StR w p) (hb : Below w.heap.size w w') : StR w' p := ⟨h.1.below hb, h.2.below hb⟩
theorem TrR.below {w w' : World} {p : TP} (h : TrR w p) (hb : Below w.heap.size w w') : TrR w' p := ⟨h.1.below hb, h.2.below hb⟩
structure ChM (w : World) (c : CH) (eV vV sV tV : Value) (sp : List SP) (tp : List TP) : Prop where
 es : Inn w 1 eV c.es.length (strsV c.es)
 vs : Inn w 7 vV c.vs.length (flatV c.vs)
 ssE : sp.map Prod.fst = c.ss
 ss : Inn w 6 sV sp.length (flatS sp)
 tsE : tp.map Prod.fst = c.ts
 ts : Inn w 5 tV tp.length (flatT tp)
 sd : ∀ p ∈ sp, StR w p
 td : ∀ p ∈ tp, TrR w p
 el : c.es.length <= 9223372036854775807
 vl : c.vs.length <= 9223372036854775807
 sl : sp.length <= 9223372036854775807
 tl : tp.length <= 9223372036854775807
theorem ChM.below {w w' : World} {c : CH} {eV vV sV tV : Value} {sp : List SP} {tp : List TP} (h : ChM w c eV vV sV tV sp tp) (hb : Below w.heap.size w w') : ChM w' c eV vV sV tV sp tp :=
 ⟨h.es.below hb, h.vs.below hb, h.ssE, h.ss.below hb, h.tsE, h.ts.below hb, fun p hp => (h.sd p hp).below hb, fun p hp => (h.td p hp).below hb, h.el, h.vl, h.sl, h.tl⟩
end Go.Proofs.YtcnfcililiehlaaGreatDoor.Ch
namespace Go.Proofs.YtcnfcililiehlaaGreatDoor.Tr
open Go.RowKit
theorem below_drewN {B : Nat} {w w' : World} (h : Below B w w') (n : Nat) : Below B w (w'.drewN n) := ⟨h.os, h.tape, h.output, h.size, h.block⟩
structure SM where
 nm : ByteArray
 k : Int
 d : Int
 ini : ByteArray
 ea : Option Addr
 en : Nat
 ec : Nat
 xa : Option Addr
 xn : Nat
 xc : Nat
def stV (x : SM) : List Value := [.string x.nm, .int .i64 x.k, .int .i64 x.d, .string x.ini, .slice x.ea x.en x.ec, .slice x.xa x.xn x.xc]
def flatT (xs : List SM) : List Value := xs.flatMap stV
theorem flatT_at : ∀ {xs : List SM} {i : Nat} (h : i < xs.length) (j : Nat) (u : Value), (stV xs[i])[j]? = some u -> (flatT xs)[i * 6 + j]? = some u
 | [], i, h, _, _, _ => by simp at h
 | c :: r, 0, _, j, u, hu => by
  have hj : j < (stV c).length := (List.getElem?_eq_some_iff.1 hu).1;show (stV c ++ flatT r)[0 * 6 + j]? = _;rw [Nat.zero_mul, Nat.zero_add, List.getElem?_append_left hj]; exact hu
 | c :: r, i + 1, h, j, u, hu => by
  have ih := flatT_at (xs := r) (i := i) (by simpa using h) j u hu;show (stV c ++ flatT r)[(i + 1) * 6 + j]? = _;rw [List.getElem?_append_right (by simp [stV]; omega)];simp only [stV, List.length_cons, List.length_nil];rw [show (i + 1) * 6 + j - (0 + 1 + 1 + 1 + 1 + 1 + 1) = i * 6 + j by omega];exact ih
def dp (xs : List SM) (i : Nat) : Int := match xs[i]? with | some x => x.d | none => 0
def kp (xs : List SM) (i : Nat) : Int := match xs[i]? with | some x => x.k | none => 0
theorem dp_at {xs : List SM} {i : Nat} (h : i < xs.length) : dp xs i = xs[i].d := by unfold dp; rw [List.getElem?_eq_getElem h]
theorem kp_at {xs : List SM} {i : Nat} (h : i < xs.length) : kp xs i = xs[i].k := by unfold kp; rw [List.getElem?_eq_getElem h]
def RdT (w : World) (v : Value) (xs : List SM) : Prop := Inn w 6 v xs.length (flatT xs)
theorem RdT.form {w : World} {v : Value} {xs : List SM} (h : RdT w v xs) : ∃ A c, v = .slice A xs.length c := Inn.form h
theorem RdT.below {w w' : World} {v : Value} {xs : List SM} (h : RdT w v xs) (hb : Below w.heap.size w w') : RdT w' v xs := Inn.below h hb
theorem RdT.drew {w : World} {v : Value} {xs : List SM} (h : RdT w v xs) (n : Nat) : RdT (w.drewN n) v xs := h.below (below_drewN (Below.refl _ _) n)
theorem RdT.base {w : World} {A : Option Addr} {n c : Nat} {xs : List SM} (h : RdT w (.slice A n c) xs) (h0 : 0 < xs.length) : ∃ b o, A = some ⟨b, o, none⟩ /\ b < w.heap.size /\
 ∀ i (hi : i < xs.length), w.cell? ⟨b, o + i * 6, none⟩ = some (.string xs[i].nm) /\ w.cell? ⟨b, o + i * 6 + 1, none⟩ = some (.int .i64 (kp xs i)) /\ w.cell? ⟨b, o + i * 6 + 2, none⟩ = some (.int .i64 (dp xs i)) /\
  w.cell? ⟨b, o + i * 6 + 3, none⟩ = some (.string xs[i].ini) /\ w.cell? ⟨b, o + i * 6 + 4, none⟩ = some (.slice xs[i].ea xs[i].en xs[i].ec) /\ w.cell? ⟨b, o + i * 6 + 5, none⟩ = some (.slice xs[i].xa xs[i].xn xs[i].xc) := by
 rcases h with ⟨_, h1, _⟩ | ⟨ad, c', e, hl, hc⟩
 ·omega
 ·obtain ⟨b, o, rfl, hlt, hc⟩ := hc h0;simp only [Value.slice.injEq] at e;refine ⟨b, o, e.1, hlt, fun i hi => ?_⟩;rw [kp_at hi, dp_at hi];have f := fun j u => flatT_at hi j u
  refine ⟨hc _ _ (f 0 _ rfl), ?_, ?_, ?_, ?_, ?_⟩
  ·rw [Nat.add_assoc]; exact hc _ _ (f 1 _ rfl)
  ·rw [Nat.add_assoc]; exact hc _ _ (f 2 _ rfl)
  ·rw [Nat.add_assoc]; exact hc _ _ (f 3 _ rfl)
  ·rw [Nat.add_assoc]; exact hc _ _ (f 4 _ rfl)
  ·rw [Nat.add_assoc]; exact hc _ _ (f 5 _ rfl)
theorem past_any (k : Int) (w : World) : Calls Tryz.prog 36 #[.int .i64 k] w fun e w' => e = .returned (.bool (decide (pastP k))) /\ w = w' := by
 by_cases h5 : k = 5
 ·subst h5
  go_enter Tryz.func36, Tryz.ntmps36
  go_wp2;go_ret;exact ⟨ret_bool (by decide), rfl⟩
 ·by_cases h6 : k = 6
  ·subst h6
   go_enter Tryz.func36, Tryz.ntmps36
   go_wp2;go_ret;exact ⟨ret_bool (by decide), rfl⟩
  ·have hP : decide (pastP k) = false := decide_eq_false (by unfold pastP; omega);rw [hP];have e5 := int_ne h5; have e6 := int_ne h6;clear hP
   go_enter Tryz.func36, Tryz.ntmps36
   go_wp2;go_ret;exact ⟨rfl, rfl⟩
theorem isHistory_any (k : Int) (w : World) : Calls Tryz.prog 206 #[.int .i64 k] w fun e w' => e = .returned (.bool (decide (pastP k))) /\ w = w' := by
 by_cases h5 : k = 5
 ·subst h5
  go_enter Tryz.func206, Tryz.ntmps206
  go_wp2;go_ret;exact ⟨ret_bool (by decide), rfl⟩
 ·by_cases h6 : k = 6
  ·subst h6
   go_enter Tryz.func206, Tryz.ntmps206
   go_wp2;go_ret;exact ⟨ret_bool (by decide), rfl⟩
  ·have hP : decide (pastP k) = false := decide_eq_false (by unfold pastP; omega);rw [hP];have e5 := int_ne h5; have e6 := int_ne h6;clear hP
   go_enter Tryz.func206, Tryz.ntmps206
   go_wp2;go_ret;exact ⟨rfl, rfl⟩
theorem isParent_any (k : Int) (w : World) : Calls Tryz.prog 207 #[.int .i64 k] w fun e w' => e = .returned (.bool (decide (parentP k))) /\ w = w' := by
 by_cases h5 : k = 2
 ·subst h5
  go_enter Tryz.func207, Tryz.ntmps207
  go_wp2;go_ret;exact ⟨ret_bool (by decide), rfl⟩
 ·by_cases h6 : k = 3
  ·subst h6
   go_enter Tryz.func207, Tryz.ntmps207
   go_wp2;go_ret;exact ⟨ret_bool (by decide), rfl⟩
  ·have hP : decide (parentP k) = false := decide_eq_false (by unfold parentP; omega);rw [hP];have e5 := int_ne h5; have e6 := int_ne h6;clear hP
   go_enter Tryz.func207, Tryz.ntmps207
   go_wp2;go_ret;exact ⟨rfl, rfl⟩
def mayC (k c : Int) : Prop := k = 2 \/ (k = 3 /\ (c = 1 \/ c = 2 \/ c = 3))
instance {k c : Int} : Decidable (mayC k c) := by unfold mayC; infer_instance
theorem mayHave_any (k c : Int) (w : World) : Calls Tryz.prog 205 #[.int .i64 k, .int .i64 c] w fun e w' => e = .returned (.bool (decide (mayC k c))) /\ w = w' := by
 by_cases h2 : k = 2
 ·subst h2;have hP : decide (mayC 2 c) = true := decide_eq_true (Or.inl rfl);rw [hP]
  go_enter Tryz.func205, Tryz.ntmps205
  go_wp2;go_ret;exact ⟨rfl, rfl⟩
 ·by_cases h3 : k = 3
  ·subst h3;by_cases c1 : c = 1
   ·subst c1
    go_enter Tryz.func205, Tryz.ntmps205
    go_wp2;go_ret;exact ⟨ret_bool (by decide), rfl⟩
   ·by_cases c2 : c = 2
    ·subst c2
     go_enter Tryz.func205, Tryz.ntmps205
     go_wp2;go_ret;exact ⟨ret_bool (by decide), rfl⟩
    ·by_cases c3 : c = 3
     ·subst c3
      go_enter Tryz.func205, Tryz.ntmps205
      go_wp2;go_ret;exact ⟨ret_bool (by decide), rfl⟩
     ·have hP : decide (mayC 3 c) = false := decide_eq_false (by unfold mayC; omega);rw [hP];have e1 := int_ne c1; have e2 := int_ne c2; have e3 := int_ne c3;clear hP
      go_enter Tryz.func205, Tryz.ntmps205
      go_wp2;go_ret;exact ⟨rfl, rfl⟩
  ·have hP : decide (mayC k c) = false := decide_eq_false (by unfold mayC; omega);rw [hP];have e2 := int_ne h2; have e3 := int_ne h3;clear hP
   go_enter Tryz.func205, Tryz.ntmps205
   go_wp2;go_ret;exact ⟨rfl, rfl⟩
set_option maxHeartbeats 1000000 in
theorem parent_any (v : Value) (xs : List SM) (i : Nat) (w : World) (hR : RdT w v xs) (hi : i < xs.length) (hl : xs.length <= 4611686018427387904) :
 Calls Tryz.prog 100 #[v, .int .i64 i] w fun e w' => e = .returned (.int .i64 (par (dp xs) i)) /\ ∃ n, w' = w.drewN n := by
 obtain ⟨A, c, rfl⟩ := hR.form;obtain ⟨b, o, rfl, hb, hc⟩ := hR.base (by omega);obtain ⟨n, hn⟩ : ∃ n, xs.length = n := ⟨_, rfl⟩
 have HC : Hid (∀ m, m < n -> w.cell? ⟨b, o + m * 6 + 2, none⟩ = some (.int .i64 (dp xs m))) := fun m hm => (hc m (by omega)).2.2.1
 have hdi : w.cell? ⟨b, o + i * 6 + 2, none⟩ = some (.int .i64 (dp xs i)) := HC.out i (by omega);rw [hn] at hi hl ⊢;clear hR hn hc;unfold par;generalize dp xs = d at *
 go_enter Tryz.func100, Tryz.ntmps100
 go_wp2
 go_loopw [5] (fun x5 wr => ∃ k m : Nat, k <= i /\ wr = w.drewN m /\ x5 = .int .i64 ((k : Int) - 1) /\ Hid (parF d i k = parF d i i)) (fun x _ => (intOf x + 1).toNat)
 case atStart => exact ⟨i, 0, by omega, rfl, by go_num, rfl⟩
 case round =>
  obtain ⟨k, m, hk, rfl, hx, HP⟩ := hrel;cases k with
  | zero =>
   have hx' : _ = Value.int .i64 (-1) := hx;subst hx';have hr : parF d i i = -1 := HP.out.symm;have HRR := Lib.hid hr;clear hr HP;go_wp2
   go_quiet (fail)
   go_wp2;go_ret;exact ⟨ret_int HRR.out.symm, m + nq, World.drewN_drewN _ _ _⟩
  | succ j =>
   rw [show ((j + 1 : Nat) : Int) - 1 = (j : Int) by omega] at hx;subst hx;have hdj := HC.out j (by omega);have hst := parF_succ d i j;rw [HP.out] at hst;by_cases hle : d i <= d j
   ·rw [if_pos hle] at hst;have HRR := Lib.hid hst.symm;clear hst HP;go_wp2
    go_quiet (fail)
    go_wp2
    go_roundw
    case rel => exact ⟨j, m + nq, by omega, rfl, by go_num, HRR.out⟩
    case measure => simp [intOf] <;> omega
   ·rw [if_neg hle] at hst;have HRR := Lib.hid hst;have hlt : d j < d i := by omega
    clear hst HP hle;go_wp2
    go_quiet (fail)
    go_wp2;go_ret;exact ⟨ret_int HRR.out.symm, m + nq, World.drewN_drewN _ _ _⟩
set_option maxHeartbeats 1000000 in
theorem end_any (v : Value) (xs : List SM) (i : Nat) (w : World) (hR : RdT w v xs) (hi : i < xs.length) (hl : xs.length <= 4611686018427387904) :
 Calls Tryz.prog 143 #[v, .int .i64 i] w fun e w' => e = .returned (.int .i64 (en (dp xs) xs.length i)) /\ ∃ n, w' = w.drewN n := by
 obtain ⟨A, c, rfl⟩ := hR.form;obtain ⟨b, o, rfl, hb, hc⟩ := hR.base (by omega);obtain ⟨n, hn⟩ : ∃ n, xs.length = n := ⟨_, rfl⟩
 have HC : Hid (∀ m, m < n -> w.cell? ⟨b, o + m * 6 + 2, none⟩ = some (.int .i64 (dp xs m))) := fun m hm => (hc m (by omega)).2.2.1
 have hdi : w.cell? ⟨b, o + i * 6 + 2, none⟩ = some (.int .i64 (dp xs i)) := HC.out i (by omega);rw [hn] at hi hl ⊢;clear hR hn hc;generalize dp xs = d at *
 go_enter Tryz.func143, Tryz.ntmps143
 go_wp2
 go_loopw [5] (fun x5 wr => ∃ k m : Nat, k <= n /\ wr = w.drewN m /\ x5 = .int .i64 k /\ Hid (i < k /\ endF d i (n - k) k = en d n i)) (fun x _ => n - (intOf x).toNat)
 case atStart => exact ⟨i + 1, 0, by omega, rfl, by go_num, by omega, rfl⟩
 case round =>
  obtain ⟨k, m, hk, rfl, rfl, HP⟩ := hrel;by_cases hkn : k < n
  ·have hdk := HC.out k hkn;have hst := endF_succ d i (n - (k + 1)) k;rw [show n - (k + 1) + 1 = n - k by omega, HP.out.2] at hst;have HIK := Lib.hid HP.out.1;by_cases hlt : d i < d k
   ·rw [if_pos hlt] at hst;have HRR := Lib.hid hst.symm;clear hst HP;go_wp2
    go_quiet (fail)
    go_wp2
    go_roundw
    case rel => exact ⟨k + 1, m + nq, by omega, rfl, by go_num, Nat.lt_succ_of_lt HIK.out, HRR.out⟩
    case measure => simp [intOf] <;> omega
   ·rw [if_neg hlt] at hst;have HRR := Lib.hid hst;have hle : d k <= d i := by omega
    clear hst HP hlt;go_wp2
    go_quiet (fail)
    go_wp2;go_ret;exact ⟨ret_int (by rw [HRR.out]), m + nq, World.drewN_drewN _ _ _⟩
  ·have hr : en d n i = k := by rw [<- HP.out.2, show n - k = 0 by omega]; rfl
   have HRR := Lib.hid hr;have hdf : decide ((k : Int) < n) = false := decide_eq_false (by omega);clear hr HP;go_wp2
   go_quiet (fail)
   go_wp2;go_ret;exact ⟨ret_int (by rw [HRR.out]), m + nq, World.drewN_drewN _ _ _⟩
set_option maxHeartbeats 1000000 in
theorem refParent_any (v : Value) (xs : List SM) (i : Nat) (w : World) (hR : RdT w v xs) (hi : i < xs.length) (hl : xs.length <= 4611686018427387904) (hN : Nst (dp xs) xs.length) :
 Calls Tryz.prog 37 #[v, .int .i64 i] w fun e w' => e = .returned (.int .i64 (par (dp xs) i)) /\ ∃ n, w' = w.drewN n := by
 obtain ⟨A, c, rfl⟩ := hR.form;obtain ⟨b, o, rfl, hb, hc⟩ := hR.base (by omega);obtain ⟨n, hn⟩ : ∃ n, xs.length = n := ⟨_, rfl⟩
 have HC : Hid (∀ m, m < n -> w.cell? ⟨b, o + m * 6 + 2, none⟩ = some (.int .i64 (dp xs m))) := fun m hm => (hc m (by omega)).2.2.1
 have hdi : w.cell? ⟨b, o + i * 6 + 2, none⟩ = some (.int .i64 (dp xs i)) := HC.out i (by omega);rw [hn] at hi hl hN ⊢;clear hR hn hc;generalize dp xs = d at *
 have hlo := hN.lo i hi;have hhi := hN.hi i hi;have HE := Lib.hid (hN.las hi);clear hN
 go_enter Tryz.func37, Tryz.ntmps37
 go_wp2
 go_loopw [5, 6] (fun x5 x6 wr => ∃ k m : Nat, k <= i /\ wr = w.drewN m /\ x6 = .int .i64 k /\ x5 = .int .i64 (lasF d i k)) (fun _ x _ => i - (intOf x).toNat)
 case atStart => exact ⟨0, 0, by omega, rfl, rfl, rfl⟩
 case round =>
  obtain ⟨k, m, hk, rfl, rfl, rfl⟩ := hrel;by_cases hki : k < i
  ·have hdk := HC.out k (by omega);have hst := lasF_succ d i k;by_cases he : d k = d i - 1
   ·rw [if_pos he] at hst;have HST := Lib.hid hst;rw [he] at hdk;clear hst;go_wp2
    go_quiet (fail)
    go_wp2
    go_roundw
    case rel => exact ⟨k + 1, m + nq, by omega, rfl, by go_num, by rw [HST.out]⟩
    case measure => simp [intOf] <;> omega
   ·rw [if_neg he] at hst;have HST := Lib.hid hst;clear hst;have hne := int_ne he;go_wp2
    go_quiet (fail)
    go_wp2
    go_roundw
    case rel => exact ⟨k + 1, m + nq, by omega, rfl, by go_num, by rw [HST.out]⟩
    case measure => simp [intOf] <;> omega
  ·obtain rfl : k = i := by omega
   go_wp2;go_ret;exact ⟨ret_int HE.out, m, rfl⟩
end Go.Proofs.YtcnfcililiehlaaGreatDoor.Tr
namespace Go.Proofs.YtcnfcililiehlaaGreatDoor.Ch.Vd
open Go.RowKit
theorem flat_vm (vs : List VM) : Go.Proofs.YtcnfcililiehlaaGreatDoor.flatV (vs.map vm) = Ch.flatV vs := by
 unfold Go.Proofs.YtcnfcililiehlaaGreatDoor.flatV Ch.flatV;rw [List.flatMap_map];rfl
theorem _root_.Go.Proofs.YtcnfcililiehlaaGreatDoor.Ch.BlkR.form {w : World} {v : Value} {l : List AM} (h : BlkR w v l) : ∃ A c, v = .slice A l.length c := by
 obtain ⟨ps, h1, h2, _⟩ := h;obtain ⟨A, c, e⟩ := h2.form;exact ⟨A, c, by rw [e, <- h1, List.length_map]⟩
theorem _root_.Go.Proofs.YtcnfcililiehlaaGreatDoor.Ch.GdR.form {w : World} {v : Value} {l : List CM} (h : GdR w v l) : ∃ A c, v = .slice A l.length c := by
 exact h.1.slice
def toT (p : SP) : Tr.SM := match p.2.1, p.2.2 with
 | .slice a n c, .slice a' n' c' => ⟨⟨p.1.nm.toArray⟩, p.1.kd, p.1.dp, ⟨p.1.ini.toArray⟩, a, n, c, a', n', c'⟩
 | _, _ => ⟨⟨p.1.nm.toArray⟩, p.1.kd, p.1.dp, ⟨p.1.ini.toArray⟩, none, 0, 0, none, 0, 0⟩
theorem toT_k (p : SP) : (toT p).k = p.1.kd := by unfold toT; split <;> rfl
theorem toT_d (p : SP) : (toT p).d = p.1.dp := by unfold toT; split <;> rfl
theorem stV_toT {w : World} {p : SP} (h : StR w p) : Tr.stV (toT p) = Ch.stV p := by
 obtain ⟨s, v1, v2⟩ := p;obtain ⟨A1, c1, e1⟩ := h.1.form;obtain ⟨A2, c2, e2⟩ := h.2.form;simp only at e1 e2;subst e1; subst e2;rfl
theorem flat_toT {w : World} : ∀ (sp : List SP), (∀ p ∈ sp, StR w p) -> Tr.flatT (sp.map toT) = Ch.flatS sp
 | [], _ => rfl
 | p :: r, h => by
  show Tr.stV (toT p) ++ Tr.flatT (r.map toT) = Ch.stV p ++ Ch.flatS r;rw [stV_toT (h p List.mem_cons_self), flat_toT r (fun q hq => h q (List.mem_cons_of_mem _ hq))]
section
variable {w : World} {c : CH} {eV vV sV tV : Value} {sp : List SP} {tp : List TP}
theorem dp_toT (h : ChM w c eV vV sV tV sp tp) : Tr.dp (sp.map toT) = dC c.ss := by
 funext i
 unfold Tr.dp dC;rw [<- h.ssE, List.getElem?_map, List.getElem?_map];cases sp[i]? with
 | none => rfl
 | some p => exact toT_d p
theorem kp_toT (h : ChM w c eV vV sV tV sp tp) : Tr.kp (sp.map toT) = kC c.ss := by
 funext i
 unfold Tr.kp kC;rw [<- h.ssE, List.getElem?_map, List.getElem?_map];cases sp[i]? with
 | none => rfl
 | some p => exact toT_k p
theorem _root_.Go.Proofs.YtcnfcililiehlaaGreatDoor.Ch.ChM.sLen (h : ChM w c eV vV sV tV sp tp) : sp.length = c.ss.length := by rw [<- h.ssE, List.length_map]
theorem _root_.Go.Proofs.YtcnfcililiehlaaGreatDoor.Ch.ChM.tLen (h : ChM w c eV vV sV tV sp tp) : tp.length = c.ts.length := by rw [<- h.tsE, List.length_map]
theorem _root_.Go.Proofs.YtcnfcililiehlaaGreatDoor.Ch.ChM.rdT (h : ChM w c eV vV sV tV sp tp) : Tr.RdT w sV (sp.map toT) := by
 unfold Tr.RdT;rw [flat_toT sp h.sd, List.length_map];exact h.ss
theorem _root_.Go.Proofs.YtcnfcililiehlaaGreatDoor.Ch.ChM.rdV (h : ChM w c eV vV sV tV sp tp) : RdV w vV (vmL c) := by
 unfold RdV vmL;rw [flat_vm, List.length_map];exact h.vs
theorem _root_.Go.Proofs.YtcnfcililiehlaaGreatDoor.Ch.ChM.rdW (h : ChM w c eV vV sV tV sp tp) : RdW w eV c.es := h.es
theorem _root_.Go.Proofs.YtcnfcililiehlaaGreatDoor.Ch.ChM.forms (h : ChM w c eV vV sV tV sp tp) : (∃ A k, eV = .slice A c.es.length k) /\ (∃ A k, vV = .slice A c.vs.length k) /\ (∃ A k, sV = .slice A sp.length k) /\ (∃ A k, tV = .slice A tp.length k) :=
 ⟨Inn.form h.es, Inn.form h.vs, Inn.form h.ss, Inn.form h.ts⟩
end
abbrev chA (c : CH) (eV vV sV tV : Value) : Value := .agg #[bstr c.nm, eV, vV, sV, tV]
end Go.Proofs.YtcnfcililiehlaaGreatDoor.Ch.Vd
