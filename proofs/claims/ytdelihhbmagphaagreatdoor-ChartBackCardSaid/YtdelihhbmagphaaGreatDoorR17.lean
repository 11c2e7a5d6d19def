/- Own texts, joined: Ba, Bb, Yr. -/
import Derived.Test.YtdelihhbmagphaaGreatDoorR2
import Derived.Test.YtdelihhbmagphaaGreatDoorR13
import Derived.Test.YtdelihhbmagphaaGreatDoorR15
import Derived.Test.YtdelihhbmagphaaGreatDoorR16
import Derived.RangeFuncBox
namespace Go.Proofs.YtdelihhbmagphaaGreatDoor.Ch
structure VM where
 nm : List UInt8
 kd : Int
 lo : Int
 hi : Int
 ik : Int
 ia : Int
 ib : Int
structure SC where
 nm : List UInt8
 kd : Int
 dp : Int
 ini : List UInt8
 en : List AM
 ex : List AM
structure TC where
 fr : Int
 ev : List UInt8
 gd : List CM
 «to» : List UInt8
 ac : List AM
structure CH where
 nm : List UInt8
 es : List (List UInt8)
 vs : List VM
 ss : List SC
 ts : List TC
def noCH : CH := ⟨[], [], [], [], []⟩
def wChart : List UInt8 := [99, 104, 97, 114, 116]
def wEvent : List UInt8 := [101, 118, 101, 110, 116]
def wInt : List UInt8 := [105, 110, 116]
def wBool : List UInt8 := [98, 111, 111, 108]
def wPoint : List UInt8 := [112, 111, 105, 110, 116]
def wBasic : List UInt8 := [98, 97, 115, 105, 99]
def wBoth : List UInt8 := [98, 111, 116, 104]
def wFinal : List UInt8 := [102, 105, 110, 97, 108]
def wOne : List UInt8 := [111, 110, 101]
def wShallow : List UInt8 := [115, 104, 97, 108, 108, 111, 119]
def wDeep : List UInt8 := [100, 101, 101, 112]
def wEntry : List UInt8 := [101, 110, 116, 114, 121]
def wExit : List UInt8 := [101, 120, 105, 116]
def wOn : List UInt8 := [111, 110]
def wDash : List UInt8 := [45]
def roomC (ss : List SC) : Int := match ss.getLast? with
 | none => 0
 | some s => s.dp + 1
def headB (c : CH) (d n : Nat) (r : List (List UInt8)) : Bool := !c.nm.isEmpty && c.ss.isEmpty && decide (d = 0) && decide (r.length = n)
def partB (c : CH) (d n : Nat) (r : List (List UInt8)) : Bool := !c.ss.isEmpty && decide ((d : Int) = roomC c.ss) && decide (r.length = n)
def wd (r : List (List UInt8)) (i : Nat) : List UInt8 := r.getD i []
theorem wd_at {r : List (List UInt8)} {i : Nat} (h : i < r.length) : wd r i = r[i] := by simp [wd, h]
def nameS (c : CH) (d : Nat) (r : List (List UInt8)) : Option CH :=
 if (c.nm.isEmpty && decide (d = 0) && decide (r.length = 1) && nameB (wd r 0)) = true then some { c with nm := wd r 0 } else none
def eventS (c : CH) (d : Nat) (r : List (List UInt8)) : Option CH :=
 if (headB c d 1 r && nameB (wd r 0)) = true then some { c with es := c.es ++ [wd r 0] } else none
def varS (c : CH) (v : VM) : Option CH := if nameB v.nm = true then some { c with vs := c.vs ++ [v] } else none
def boundS (c : CH) (r : List (List UInt8)) (ik ia ib : Int) : Option CH :=
 if (numP (wd r 1)).2 = 0 ∧ (numP (wd r 2)).2 = 0 then varS c ⟨wd r 0, ik, (numP (wd r 1)).1, (numP (wd r 2)).1, ik, ia, ib⟩ else none
def intS (c : CH) (d : Nat) (r : List (List UInt8)) : Option CH :=
 if headB c d 4 r = true ∧ (numP (wd r 3)).2 = 0 then boundS c r 1 (numP (wd r 3)).1 0 else none
def boolS (c : CH) (d : Nat) (r : List (List UInt8)) : Option CH :=
 if headB c d 2 r = true ∧ (wd r 1 = wTrue ∨ wd r 1 = wFalse) then varS c ⟨wd r 0, 2, 0, 1, 2, if wd r 1 = wTrue then 1 else 0, 0⟩ else none
def pointS (c : CH) (d : Nat) (r : List (List UInt8)) : Option CH :=
 if headB c d 4 r = true then match Pl.refL (wd r 3) with
  | some (a, b) => boundS c r 3 a b
  | none => none
 else none
def stateB (c : CH) (d n : Nat) (r : List (List UInt8)) : Bool := !c.nm.isEmpty && decide ((d : Int) ≤ roomC c.ss) && decide (r.length = n) && r.all nameB
def stateS (k : Int) (n : Nat) (c : CH) (d : Nat) (r : List (List UInt8)) : Option CH :=
 if stateB c d n r = true then some { c with ss := c.ss ++ [⟨wd r 0, k, d, if 1 < n then wd r 1 else [], [], []⟩] } else none
def lastS (c : CH) (f : SC → Option SC) : Option CH := match c.ss.getLast? with
 | none => none
 | some s => match f s with
  | none => none
  | some s' => some { c with ss := c.ss.dropLast ++ [s'] }
def entryS (c : CH) (d : Nat) (r : List (List UInt8)) : Option CH :=
 if partB c d 1 r = true then lastS c fun s => if s.en.length = 0 ∧ (parseA (wd r 0)).2 = 0 then some { s with en := (parseA (wd r 0)).1 } else none else none
def exitS (c : CH) (d : Nat) (r : List (List UInt8)) : Option CH :=
 if partB c d 1 r = true then lastS c fun s => if s.ex.length = 0 ∧ (parseA (wd r 0)).2 = 0 then some { s with ex := (parseA (wd r 0)).1 } else none else none
def dashed {α : Type} (z : α) (w : List UInt8) (a : α) : α := if w = wDash then z else a
def evOk (w : List UInt8) : Bool := decide (w = wDash) || eventB w
def gdOk (w : List UInt8) : Bool := decide (w = wDash) || decide ((parseP w).2.2 = 0)
def toOk (w : List UInt8) : Bool := decide (w = wDash) || nameB w
def acOk (w : List UInt8) : Bool := decide (w = wDash) || decide ((parseA w).2 = 0)
def onT (n : Int) (r : List (List UInt8)) : TC := ⟨n - 1, dashed [] (wd r 0) (wd r 0), dashed [] (wd r 1) (parseP (wd r 1)).1, dashed [] (wd r 2) (wd r 2), dashed [] (wd r 3) (parseA (wd r 3)).1⟩
def onS (c : CH) (d : Nat) (r : List (List UInt8)) : Option CH :=
 if (partB c d 4 r && evOk (wd r 0) && gdOk (wd r 1) && toOk (wd r 2) && acOk (wd r 3)) = true then some { c with ts := c.ts ++ [onT c.ss.length r] } else none
abbrev StepS := CH → Nat → List (List UInt8) → Option CH
def stepT : List (List UInt8 × StepS) :=
 [(wChart, nameS), (wEvent, eventS), (wInt, intS), (wBool, boolS), (wPoint, pointS), (wBasic, stateS 1 1), (wBoth, stateS 3 1), (wFinal, stateS 4 1), (wOne, stateS 2 2), (wShallow, stateS 5 2), (wDeep, stateS 6 2), (wEntry, entryS), (wExit, exitS), (wOn, onS)]
def findS : List (List UInt8 × StepS) → List UInt8 → Option StepS
 | [], _ => none
 | (k, g) :: r, f => if f = k then some g else findS r f
theorem findS_mem : ∀ {l : List (List UInt8 × StepS)} {f : List UInt8} {g : StepS}, findS l f = some g → (f, g) ∈ l
 | [], _, _, h => by cases h
 | (k, g') :: r, f, g, h => by
  unfold findS at h
  by_cases hk : f = k
  ·rw [if_pos hk] at h
   injection h with h
   subst h; subst hk
   exact List.mem_cons_self
  ·rw [if_neg hk] at h
   exact List.mem_cons_of_mem _ (findS_mem h)
def stepF (f : List UInt8) : Option StepS := findS stepT f
def stepC (c : CH) (d : Nat) (ws : List (List UInt8)) : Option CH := match ws with
 | [] => none
 | f :: r => match stepF f with
  | none => none
  | some g => g c d r
def lineC (c : CH) (l : List UInt8) : Option CH := if lineB l = true then stepC c (depthL l) (lineW l) else none
def linesL : List UInt8 → List (List UInt8)
 | [] => []
 | c :: r => if c = 10 then [] :: linesL r else match linesL r with
  | [] => [[c]]
  | p :: ps => (c :: p) :: ps
def runC : CH → Nat → List (List UInt8) → CH × Nat × Int
 | c, _, [] => (c, 0, 0)
 | c, k, l :: ls => match lineC c l with
  | none => (noCH, k, 1)
  | some c' => runC c' (k + 1) ls
def parseC (s : List UInt8) : CH × Nat × Int :=
 if 6000 < s.length then (noCH, 0, 4) else if s = [] then (noCH, 1, 1) else runC noCH 1 (linesL s)
theorem linesL_ne {s : List UInt8} (h : s ≠ []) : linesL s ≠ [] := by
 cases s with
 | nil => exact absurd rfl h
 | cons c r =>
  unfold linesL
  split
  ·simp
  ·split <;> simp
theorem nameB_ne {l : List UInt8} (h : nameB l = true) : l ≠ [] := by
 intro e; subst e; simp [nameB] at h
theorem varS_nm {c c' : CH} {v : VM} (h : varS c v = some c') : c'.nm = c.nm := by
 unfold varS at h; split at h
 ·injection h with h; subst h; rfl
 ·cases h
theorem boundS_nm {c c' : CH} {r : List (List UInt8)} {ik ia ib : Int} (h : boundS c r ik ia ib = some c') : c'.nm = c.nm := by
 unfold boundS at h; split at h
 ·exact varS_nm h
 ·cases h
theorem headB_nm {c : CH} {d n : Nat} {r : List (List UInt8)} (h : headB c d n r = true) : c.nm ≠ [] := by
 unfold headB at h; intro e; rw [e] at h; simp at h
theorem partB_ss {c : CH} {d n : Nat} {r : List (List UInt8)} (h : partB c d n r = true) : c.ss ≠ [] := by
 unfold partB at h; intro e; rw [e] at h; simp at h
theorem lastS_nm {c c' : CH} {f : SC → Option SC} (h : lastS c f = some c') : c'.nm = c.nm := by
 unfold lastS at h; split at h
 ·cases h
 ·split at h
  ·cases h
  ·injection h with h; subst h; rfl
def Nmd (c : CH) : Prop := c = noCH ∨ c.nm ≠ []
theorem Nmd.of_ss {c : CH} (h : Nmd c) (hs : c.ss ≠ []) : c.nm ≠ [] := by
 rcases h with rfl | h
 ·exact absurd rfl hs
 ·exact h
theorem step_nm {f : List UInt8} {g : StepS} (hf : stepF f = some g) {c c' : CH} {d : Nat} {r : List (List UInt8)} (hn : Nmd c) (h : g c d r = some c') : c'.nm ≠ [] := by
 have hst : ∀ k n, stateS k n c d r = some c' → c'.nm ≠ [] := by
  intro k n h
  unfold stateS at h; split at h
  ·rename_i hb
   injection h with h; subst h
   show c.nm ≠ []
   intro e; unfold stateB at hb; rw [e] at hb; simp at hb
  ·cases h
 have hm := findS_mem hf
 simp only [stepT, List.mem_cons, Prod.mk.injEq, List.not_mem_nil, or_false] at hm
 rcases hm with ⟨_, rfl⟩ | ⟨_, rfl⟩ | ⟨_, rfl⟩ | ⟨_, rfl⟩ | ⟨_, rfl⟩ | ⟨_, rfl⟩ | ⟨_, rfl⟩ | ⟨_, rfl⟩ | ⟨_, rfl⟩ | ⟨_, rfl⟩ | ⟨_, rfl⟩ | ⟨_, rfl⟩ | ⟨_, rfl⟩ | ⟨_, rfl⟩
 ·unfold nameS at h; split at h
  ·rename_i hb
   injection h with h; subst h
   simp only [Bool.and_eq_true] at hb
   exact nameB_ne hb.2
  ·cases h
 ·unfold eventS at h; split at h
  ·rename_i hb
   injection h with h; subst h
   simp only [Bool.and_eq_true] at hb
   exact headB_nm hb.1
  ·cases h
 ·unfold intS at h; split at h
  ·rename_i hb; rw [boundS_nm h]; exact headB_nm hb.1
  ·cases h
 ·unfold boolS at h; split at h
  ·rename_i hb; rw [varS_nm h]; exact headB_nm hb.1
  ·cases h
 ·unfold pointS at h; split at h
  ·rename_i hb
   split at h
   ·rw [boundS_nm h]; exact headB_nm hb
   ·cases h
  ·cases h
 ·exact hst _ _ h
 ·exact hst _ _ h
 ·exact hst _ _ h
 ·exact hst _ _ h
 ·exact hst _ _ h
 ·exact hst _ _ h
 ·unfold entryS at h; split at h
  ·rename_i hb; rw [lastS_nm h]; exact hn.of_ss (partB_ss hb)
  ·cases h
 ·unfold exitS at h; split at h
  ·rename_i hb; rw [lastS_nm h]; exact hn.of_ss (partB_ss hb)
  ·cases h
 ·unfold onS at h; split at h
  ·rename_i hb
   injection h with h; subst h
   simp only [Bool.and_eq_true] at hb
   exact hn.of_ss (partB_ss hb.1.1.1.1)
  ·cases h
theorem lineC_nm {c c' : CH} {l : List UInt8} (hn : Nmd c) (h : lineC c l = some c') : c'.nm ≠ [] := by
 unfold lineC at h
 split at h
 ·unfold stepC at h
  split at h
  ·cases h
  ·split at h
   ·cases h
   ·rename_i hf; exact step_nm hf hn h
 ·cases h
end Go.Proofs.YtdelihhbmagphaaGreatDoor.Ch
namespace Go.Proofs.YtdelihhbmagphaaGreatDoor.Ch
open Go.RowKit
def vaV (v : VM) : List Value := [bstr v.nm, .int .i64 v.kd, .int .i64 v.lo, .int .i64 v.hi, .int .i64 v.ik, .int .i64 v.ia, .int .i64 v.ib]
def flatV (vs : List VM) : List Value := vs.flatMap vaV
abbrev SP := SC × Value × Value
def stV (p : SP) : List Value := [bstr p.1.nm, .int .i64 p.1.kd, .int .i64 p.1.dp, bstr p.1.ini, p.2.1, p.2.2]
def flatS (ps : List SP) : List Value := ps.flatMap stV
abbrev TP := TC × Value × Value
def trV (p : TP) : List Value := [.int .i64 p.1.fr, bstr p.1.ev, p.2.1, bstr p.1.to, p.2.2]
def flatT (ps : List TP) : List Value := ps.flatMap trV
def strsV (l : List (List UInt8)) : List Value := l.map bstr
theorem flatM_length {α : Type} (f : α → List Value) (k : Nat) (hf : ∀ a, (f a).length = k) (l : List α) : (l.flatMap f).length = l.length * k := by
 induction l with
 | nil => simp
 | cons a r ih => rw [List.flatMap_cons, List.length_append, hf, ih, List.length_cons, Nat.succ_mul, Nat.add_comm]
theorem flatM_at {α : Type} (f : α → List Value) (k : Nat) (hf : ∀ a, (f a).length = k) {l : List α} {i : Nat} (h : i < l.length) {j : Nat} (hj : j < k) : (l.flatMap f)[i * k + j]? = (f l[i])[j]? := by
 induction l generalizing i with
 | nil => simp at h
 | cons a r ih =>
  rw [List.flatMap_cons]
  cases i with
  | zero => rw [List.getElem?_append_left (by rw [hf]; omega)]; simp
  | succ q =>
   rw [List.getElem?_append_right (by rw [hf, Nat.succ_mul]; omega), hf]
   have e : (q + 1) * k + j - k = q * k + j := by rw [Nat.succ_mul]; omega
   rw [e]
   exact ih (by simpa using h)
theorem flatT_length (l : List TP) : (flatT l).length = l.length * 5 := flatM_length trV 5 (fun _ => rfl) l
theorem Tryz.infoVar : (Tryz.prog.info? 64).map (fun i => (i.zero, i.size, i.bytes)) = some (some (.agg #[.string ByteArray.empty, .int .i64 0, .int .i64 0, .int .i64 0, .int .i64 0, .int .i64 0, .int .i64 0]), 7, 64) := by kernel_rfl
theorem Tryz.infoState : (Tryz.prog.info? 67).map (fun i => (i.zero, i.size, i.bytes)) = some (some (.agg #[.string ByteArray.empty, .int .i64 0, .int .i64 0, .string ByteArray.empty, .slice none 0 0, .slice none 0 0]), 6, 96) := by kernel_rfl
theorem Tryz.infoTrans : (Tryz.prog.info? 71).map (fun i => (i.zero, i.size, i.bytes)) = some (some (.agg #[.int .i64 0, .string ByteArray.empty, .slice none 0 0, .string ByteArray.empty, .slice none 0 0]), 5, 88) := by kernel_rfl
def KeepI (w w' : World) : Prop := w.heap.size ≤ w'.heap.size ∧ ∀ (k : Nat) (cur : Array Value) (t : TypeId), (t = 94 ∨ t = 96) → w.heap[k]? = some (Obj.cells cur t (0, 0)) → w'.heap[k]? = some (Obj.cells cur t (0, 0))
theorem KeepI.refl (w : World) : KeepI w w := ⟨Nat.le_refl _, fun _ _ _ _ h => h⟩
theorem KeepI.trans {a b c : World} (h : KeepI a b) (h' : KeepI b c) : KeepI a c := ⟨Nat.le_trans h.1 h'.1, fun k cur t ht hk => h'.2 k cur t ht (h.2 k cur t ht hk)⟩
theorem lt_of_heap {w : World} {k : Nat} {o : Obj} (h : w.heap[k]? = some o) : k < w.heap.size := (Array.getElem?_eq_some_iff.1 h).1
theorem KeepI.of_below {w w' : World} (h : Below w.heap.size w w') : KeepI w w' := ⟨h.size, fun k _ _ _ hk => (h.block k (lt_of_heap hk)).trans hk⟩
theorem KeepI.of_grown {w w' : World} {g : Nat} {cur : Array Value} {t : TypeId} {z : Nat × Nat} (h : w.grownBy w' (some g)) (hg : w.heap[g]? = some (.cells cur t z)) (h1 : t ≠ 94) (h2 : t ≠ 96) : KeepI w w' :=
 ⟨h.size, fun k cur' t' ht hk => (h.block k (lt_of_heap hk) (fun e => by
  have e := Option.some.inj e
  subst e
  rw [hg] at hk
  injection hk with hk
  injection hk with _ hk _
  subst hk
  rcases ht with ht | ht
  ·exact h1 ht
  ·exact h2 ht)).trans hk⟩
theorem KeepI.own {w w' : World} {B : Nat} {e : TypeId} {size n : Nat} {v : Value} {xs : List Value} (hk : KeepI w w') (h : w.ownsRow B e size v n xs) (he : e = 94 ∨ e = 96) : w'.ownsRow B e size v n xs := by
 obtain ⟨h0, h | ⟨g, cap, cur, h1, h2, h3, h4⟩⟩ := h
 ·exact ⟨h0, Or.inl h⟩
 ·exact ⟨h0, Or.inr ⟨g, cap, cur, h1, h2, hk.2 g cur e he h3, h4⟩⟩
def BlkO (B : Nat) (w : World) (v : Value) (l : List AM) : Prop := ∃ al : List AP, al.map Prod.fst = l ∧ w.ownsRow B 94 3 v al.length (flatA al) ∧ ∀ p ∈ al, ActO B w p
theorem BlkO.keep {B : Nat} {w w' : World} {v : Value} {l : List AM} (h : BlkO B w v l) (hk : KeepI w w') : BlkO B w' v l := by
 obtain ⟨al, h1, h2, h3⟩ := h
 exact ⟨al, h1, hk.own h2 (Or.inl rfl), fun p hp => ⟨hk.own (h3 p hp).own (Or.inr rfl), (h3 p hp).len, (h3 p hp).names, (h3 p hp).name⟩⟩
theorem BlkO.nil (B : Nat) (w : World) : BlkO B w (.slice none 0 0) [] := ⟨[], rfl, World.ownsRow_nil _ _ _ _, fun p hp => by cases hp⟩
theorem BlkO.form {B : Nat} {w : World} {v : Value} {l : List AM} (h : BlkO B w v l) : ∃ A c, v = .slice A l.length c := by
 obtain ⟨al, h1, h2, _⟩ := h
 obtain ⟨A, c, e⟩ := own_slice h2
 exact ⟨A, c, by rw [e, ← h1, List.length_map]⟩
structure GdO (B : Nat) (w : World) (v : Value) (cs : List CM) : Prop where
 own : w.ownsRow B 96 3 v cs.length (flat cs)
 len : cs.length * 32 ≤ 140737488355328
 names : Names cs
theorem GdO.keep {B : Nat} {w w' : World} {v : Value} {cs : List CM} (h : GdO B w v cs) (hk : KeepI w w') : GdO B w' v cs := ⟨hk.own h.own (Or.inr rfl), h.len, h.names⟩
theorem GdO.nil (B : Nat) (w : World) : GdO B w (.slice none 0 0) [] := ⟨World.ownsRow_nil _ _ _ _, by simp, fun c hc => by cases hc⟩
structure KeptB (b B : Nat) (w w' : World) : Prop where
 os : w'.os = w.os
 tape : w'.tape = w.tape
 output : w'.output = w.output
 size : w.heap.size ≤ w'.heap.size
 block : ∀ k, k < B → k ≠ b → w'.heap[k]? = w.heap[k]?
 others : ∀ (k : Nat) (o : Obj), w.heap[k]? = some o → o.isCells = false → w'.heap[k]? = some o
theorem KeptB.refl (b B : Nat) (w : World) : KeptB b B w w := ⟨rfl, rfl, rfl, Nat.le_refl _, fun _ _ _ => rfl, fun _ _ h _ => h⟩
theorem KeptB.trans {b B : Nat} {x y z : World} (h : KeptB b B x y) (k : KeptB b B y z) : KeptB b B x z :=
 ⟨k.os.trans h.os, k.tape.trans h.tape, k.output.trans h.output, Nat.le_trans h.size k.size, fun i hi hb => (k.block i hi hb).trans (h.block i hi hb), fun i o h1 h2 => k.others i o (h.others i o h1 h2) h2⟩
theorem KeptB.of_below {b B : Nat} {w w' : World} (h : Below w.heap.size w w') (hB : B ≤ w.heap.size) : KeptB b B w w' := ⟨h.os, h.tape, h.output, h.size, fun k hk _ => h.block k (Nat.lt_of_lt_of_le hk hB), fun k _ h1 _ => (h.block k (lt_of_heap h1)).trans h1⟩
theorem KeptB.of_grown {b B : Nat} {w w' : World} {row : Option Nat} (h : w.grownBy w' row) (hB : B ≤ w.heap.size) (hr : ∀ g, row = some g → g = b ∨ B ≤ g) (hc : ∀ g, row = some g → ∃ (cur : Array Value) (t : TypeId) (z : Nat × Nat), w.heap[g]? = some (.cells cur t z)) : KeptB b B w w' :=
 ⟨h.os, h.tape, h.output, h.size, fun k hk hb => h.block k (Nat.lt_of_lt_of_le hk hB) (fun e => by rcases hr k e.symm with h | h <;> omega), fun k o h1 h2 => (h.block k (lt_of_heap h1) (fun e => by obtain ⟨_, _, _, h3⟩ := hc k e.symm; rw [h3] at h1; cases h1; cases h2)).trans h1⟩
theorem KeptB.below {b B B0 : Nat} {w w' : World} (h : KeptB b B w w') (h1 : B0 ≤ b) (h2 : B0 ≤ B) : Below B0 w w' := ⟨h.os, h.tape, h.output, h.size, fun k hk => h.block k (by omega) (by omega)⟩
structure OwnCh (b B : Nat) (t : TypeId) (w : World) (c : CH) (eV vV sV tV : Value) (sp : List SP) (tp : List TP) : Prop where
 box : w.heap[b]? = some (.cells #[bstr c.nm, eV, vV, sV, tV] t (0, 0))
 lt : b < B
 le : B ≤ w.heap.size
 es : w.ownsRow B 9 1 eV c.es.length (strsV c.es)
 vs : w.ownsRow B 64 7 vV c.vs.length (flatV c.vs)
 ssE : sp.map Prod.fst = c.ss
 ss : w.ownsRow B 67 6 sV sp.length (flatS sp)
 tsE : tp.map Prod.fst = c.ts
 ts : w.ownsRow B 71 5 tV tp.length (flatT tp)
 sd : ∀ p ∈ sp, BlkO B w p.2.1 p.1.en ∧ BlkO B w p.2.2 p.1.ex
 td : ∀ p ∈ tp, GdO B w p.2.1 p.1.gd ∧ BlkO B w p.2.2 p.1.ac
def Rdr (b B : Nat) (t : TypeId) (w : World) (c : CH) : Prop := ∃ eV vV sV tV sp tp, OwnCh b B t w c eV vV sV tV sp tp
theorem own_kept_ne {w w' : World} {B : Nat} {e : TypeId} {size n : Nat} {v : Value} {xs : List Value} (h : w.ownsRow B e size v n xs) {g : Nat} {cur : Array Value} {t : TypeId} {z : Nat × Nat} (hg : w.grownBy w' (some g)) (hc : w.heap[g]? = some (.cells cur t z)) (hne : t ≠ e) : w'.ownsRow B e size v n xs := by
 refine h.kept hg ?_
 rcases h.2 with ⟨rfl, _⟩ | ⟨g', cap, cur', rfl, _, h3, _⟩
 ·exact Or.inl rfl
 ·refine Or.inr fun e' => ?_
  have e' : g' = g := by simpa [Value.ownBlock] using e'
  subst e'
  rw [h3] at hc
  injection hc with hc
  injection hc with _ hc _
  exact hne hc.symm
section
variable {b B : Nat} {t : TypeId} {w w' : World} {c : CH} {eV vV sV tV : Value} {sp : List SP} {tp : List TP}
theorem OwnCh.below (h : OwnCh b B t w c eV vV sV tV sp tp) (hb : Below w.heap.size w w') : OwnCh b B t w' c eV vV sV tV sp tp := by
 have hk := KeepI.of_below hb
 exact ⟨(hb.block b (Nat.lt_of_lt_of_le h.lt h.le)).trans h.box, h.lt, Nat.le_trans h.le hb.size, own_below h.es hb, own_below h.vs hb, h.ssE, own_below h.ss hb, h.tsE, own_below h.ts hb,
  fun p hp => ⟨(h.sd p hp).1.keep hk, (h.sd p hp).2.keep hk⟩, fun p hp => ⟨(h.td p hp).1.keep hk, (h.td p hp).2.keep hk⟩⟩
theorem Rdr.below {c : CH} (h : Rdr b B t w c) (hb : Below w.heap.size w w') : Rdr b B t w' c := by
 obtain ⟨_, _, _, _, _, _, h⟩ := h; exact ⟨_, _, _, _, _, _, h.below hb⟩
theorem OwnCh.cells (h : OwnCh b B t w c eV vV sV tV sp tp) : w.cell? ⟨b, 0, none⟩ = some (bstr c.nm) ∧ w.cell? ⟨b, 1, none⟩ = some eV ∧ w.cell? ⟨b, 2, none⟩ = some vV ∧ w.cell? ⟨b, 3, none⟩ = some sV ∧ w.cell? ⟨b, 4, none⟩ = some tV := by
 have := h.box
 refine ⟨?_, ?_, ?_, ?_, ?_⟩ <;> (unfold World.cell?; rw [this]; rfl)
theorem OwnCh.frozen (h : OwnCh b B t w c eV vV sV tV sp tp) (j : Nat) : w.frozen? ⟨b, j, none⟩ = false := by simp [World.frozen?, h.box]
end
end Go.Proofs.YtdelihhbmagphaaGreatDoor.Ch
namespace Go.Proofs.YtdelihhbmagphaaGreatDoor.Ch
open Go.RowKit
def BlkR (w : World) (v : Value) (l : List AM) : Prop := ∃ ps : List AP, ps.map Prod.fst = l ∧ RdA w v ps ∧ ps.length ≤ 9223372036854775807
theorem BlkR.below {w w' : World} {v : Value} {l : List AM} (h : BlkR w v l) (hb : Below w.heap.size w w') : BlkR w' v l := by
 obtain ⟨ps, h1, h2, h3⟩ := h; exact ⟨ps, h1, h2.below hb, h3⟩
def GdR (w : World) (v : Value) (cs : List CM) : Prop := RdI w v cs ∧ cs.length * 32 ≤ 140737488355328
theorem GdR.below {w w' : World} {v : Value} {cs : List CM} (h : GdR w v cs) (hb : Below w.heap.size w w') : GdR w' v cs := ⟨h.1.below hb, h.2⟩
def StR (w : World) (p : SP) : Prop := BlkR w p.2.1 p.1.en ∧ BlkR w p.2.2 p.1.ex
def TrR (w : World) (p : TP) : Prop := GdR w p.2.1 p.1.gd ∧ BlkR w p.2.2 p.1.ac
theorem StR.below {w w' : World} {p : SP} (h : StR w p) (hb : Below w.heap.size w w') : StR w' p := ⟨h.1.below hb, h.2.below hb⟩
theorem TrR.below {w w' : World} {p : TP} (h : TrR w p) (hb : Below w.heap.size w w') : TrR w' p := ⟨h.1.below hb, h.2.below hb⟩
structure ChM (w : World) (c : CH) (eV vV sV tV : Value) (sp : List SP) (tp : List TP) : Prop where
 es : Inn w 1 eV c.es.length (strsV c.es)
 vs : Inn w 7 vV c.vs.length (flatV c.vs)
 ssE : sp.map Prod.fst = c.ss
 ss : Inn w 6 sV sp.length (flatS sp)
 tsE : tp.map Prod.fst = c.ts
 ts : Inn w 5 tV tp.length (flatT tp)
 sd : ∀ p ∈ sp, StR w p
 td : ∀ p ∈ tp, TrR w p
 el : c.es.length ≤ 9223372036854775807
 vl : c.vs.length ≤ 9223372036854775807
 sl : sp.length ≤ 9223372036854775807
 tl : tp.length ≤ 9223372036854775807
theorem ChM.below {w w' : World} {c : CH} {eV vV sV tV : Value} {sp : List SP} {tp : List TP} (h : ChM w c eV vV sV tV sp tp) (hb : Below w.heap.size w w') : ChM w' c eV vV sV tV sp tp :=
 ⟨h.es.below hb, h.vs.below hb, h.ssE, h.ss.below hb, h.tsE, h.ts.below hb, fun p hp => (h.sd p hp).below hb, fun p hp => (h.td p hp).below hb, h.el, h.vl, h.sl, h.tl⟩
end Go.Proofs.YtdelihhbmagphaaGreatDoor.Ch
