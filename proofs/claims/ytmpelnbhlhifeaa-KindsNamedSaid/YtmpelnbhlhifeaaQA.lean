/- Expressions as lists of cells, as slices in memory, as trees; what may be an operand, where one begins. (The core for the layers above expr: no reader, no printer.) -/
import Derived.Test.YtmpelnbhlhifeaaQN
import Derived.Laws.OwnMore
import Derived.OneCell
import Derived.Deep.Onto
import Derived.Deep.QuietTactic
import Derived.BigQuiet
import Derived.Deep.Draws
import Derived.RegionTactic
import Derived.Deep.RegionLaw
import Derived.Laws.Rows
import Derived.Deep.AppendLies
namespace Go.Proofs.Ytmpelnbhlhifeaa
open Go.RowKit

section
/-- a cell -/
structure CM where
  op : Int
  a : Int
  nm : List UInt8

instance : DecidableEq CM := fun x y => decidable_of_iff (x.op = y.op ∧ x.a = y.a ∧ x.nm = y.nm) (by cases x; cases y; simp)

/-- a cell that joins -/
def opC (o : Int) : CM := ⟨o, 0, []⟩
end

section
open Go.RowKit

def bstr (l : List UInt8) : Value := .string ⟨l.toArray⟩
theorem bstr_of (s : ByteArray) : bstr s.data.toList = .string s := rfl

/-- a cell's three places in memory; a list's -/
def cellV (c : CM) : List Value := [.int .i64 c.op, .int .i64 c.a, bstr c.nm]
def flat (cs : List CM) : List Value := cs.flatMap cellV
theorem flat_nil : flat [] = [] := rfl
theorem flat_append (a b : List CM) : flat (a ++ b) = flat a ++ flat b := by simp [flat]
theorem flat_one (c : CM) : flat [c] = cellV c := by simp [flat]
theorem flat_length (cs : List CM) : (flat cs).length = cs.length * 3 := by
  induction cs with
  | nil => rfl
  | cons c r ih => show (cellV c ++ flat r).length = _; rw [List.length_append, ih]; simp [cellV]; omega
theorem flat_at {cs : List CM} {i : Nat} (h : i < cs.length) : (flat cs)[i * 3]? = some (.int .i64 cs[i].op) ∧ (flat cs)[i * 3 + 1]? = some (.int .i64 cs[i].a) ∧ (flat cs)[i * 3 + 2]? = some (bstr cs[i].nm) := by
  induction cs generalizing i with
  | nil => simp at h
  | cons c r ih =>
    have e : flat (c :: r) = .int .i64 c.op :: .int .i64 c.a :: bstr c.nm :: flat r := rfl
    rw [e]
    cases i with
    | zero => exact ⟨rfl, rfl, rfl⟩
    | succ j =>
      have := ih (i := j) (by simpa using h)
      have h1 : (j + 1) * 3 = j * 3 + 3 := by omega
      rw [h1]
      exact this

theorem Try.infoCell : (Try.prog.info? 38).map (fun i => (i.zero, i.size, i.bytes)) = some (some (.agg #[.int .i64 0, .int .i64 0, .string ByteArray.empty]), 3, 32) := by kernel_rfl

variable {w0 wa w w1 w2 : World} {g : Nat} {s : ByteArray} {p p' : Nat} {cs cs' : List CM}

theorem grown_of_below {w w' : World} (h : Below w.heap.size w w') (row : Option Nat) : w.grownBy w' row := ⟨h.os, h.tape, h.output, h.size, fun k hk _ => h.block k hk⟩
theorem own_below {w w1 : World} {base : Nat} {e : TypeId} {size n : Nat} {v : Value} {xs : List Value} (h : w.ownsRow base e size v n xs) (hb : Below w.heap.size w w1) : w1.ownsRow base e size v n xs :=
  h.kept (grown_of_below hb none) (by cases hv : v.ownBlock with
    | none => exact Or.inl rfl
    | some k => exact Or.inr (by simp))
end

section
open Go.RowKit

/-- a slice value that the call owns, a list of cells -/
structure Own (w : World) (cs : List CM) (v : Value) (w' : World) : Prop where
  own : w'.ownsRow w.heap.size 38 3 v cs.length (flat cs)
  below : Below w.heap.size w w'
end

section
open Go.RowKit

/-- how many operands a cell wants -/
def operN (op : Int) : Nat := if 1 ≤ op ∧ op ≤ 6 then 0 else if 7 ≤ op ∧ op ≤ 10 then 1 else 2
def formedB (c : CM) : Bool :=
  if c.op = 1 then decide (c.nm = []) && (decide (0 ≤ c.a) && decide (c.a ≤ 1099511627776))
  else if c.op = 2 then decide (c.nm = []) && (decide (0 ≤ c.a) && decide (c.a ≤ 1048576))
  else if c.op = 5 ∨ c.op = 6 then decide (c.a = 0) && nameB c.nm
  else decide (1 ≤ c.op) && (decide (c.op ≤ 23) && (decide (c.a = 0) && decide (c.nm = [])))

theorem op_cases (op : Int) : op = 1 ∨ op = 2 ∨ op = 3 ∨ op = 4 ∨ op = 5 ∨ op = 6 ∨ op = 7 ∨ op = 8 ∨ op = 9 ∨ op = 10 ∨ (¬ (1 ≤ op ∧ op ≤ 10)) := by omega
theorem int_ne {a b : Int} (h : a ≠ b) : (a == b) = false := beq_eq_false_iff_ne.2 h

theorem ret_b {a b : Bool} (h : a = b) {P : Prop} (hp : P) : Ending.returned (.bool a) = .returned (.bool b) ∧ P := ⟨by rw [h], hp⟩
end

section
theorem sz0 (s : ByteArray) : s.data.toList.length = s.size := (Lib.size_eq s).symm
end

section
open Go.RowKit

/-- a slice value that reads as a list of cells -/
def RdC (w : World) (v : Value) (cs : List CM) : Prop :=
  ∃ (A : Option Addr) (c : Nat), v = .slice A cs.length c ∧ ∀ i (h : i < cs.length), ∃ b o, A = some ⟨b, o, none⟩ ∧
    w.cell? ⟨b, o + i * 3, none⟩ = some (.int .i64 cs[i].op) ∧ w.cell? ⟨b, o + i * 3 + 1, none⟩ = some (.int .i64 cs[i].a) ∧ w.cell? ⟨b, o + i * 3 + 2, none⟩ = some (bstr cs[i].nm)

theorem cell_lt {w : World} {p : Addr} {u : Value} (h : w.cell? p = some u) : p.block < w.heap.size := World.block_lt_of_cell? w p h
theorem RdC.below {w w' : World} {v : Value} {cs : List CM} (h : RdC w v cs) (hb : Below w.heap.size w w') : RdC w' v cs := by
  obtain ⟨A, c, rfl, hr⟩ := h
  refine ⟨A, c, rfl, fun i hi => ?_⟩
  obtain ⟨b, o, rfl, h0, h1, h2⟩ := hr i hi
  exact ⟨b, o, rfl, (hb.cell (cell_lt h0)).trans h0, (hb.cell (cell_lt h1)).trans h1, (hb.cell (cell_lt h2)).trans h2⟩
theorem own_rd {w : World} {B : Nat} {v : Value} {cs : List CM} (h : w.ownsRow B 38 3 v cs.length (flat cs)) : RdC w v cs := by
  by_cases h0 : 0 < cs.length
  · obtain ⟨g, cap, rfl, _, _⟩ := h.form h0
    refine ⟨_, _, rfl, fun i hi => ⟨_, _, rfl, ?_⟩⟩
    obtain ⟨f0, f1, f2⟩ := flat_at hi
    rw [Nat.zero_add, h.cellAt _ (by omega), h.cellAt _ (by omega), h.cellAt _ (by omega)]
    exact ⟨f0, f1, f2⟩
  · have : cs = [] := List.eq_nil_of_length_eq_zero (by omega)
    subst this
    rcases h.2 with ⟨rfl, _⟩ | ⟨g, cap, cur, rfl, _⟩
    · exact ⟨_, _, rfl, fun i hi => absurd hi (by simp)⟩
    · exact ⟨_, _, rfl, fun i hi => absurd hi (by simp)⟩
theorem Own.rd {w w' : World} {cs : List CM} {v : Value} (h : Own w cs v w') : RdC w' v cs := own_rd h.own

/-- how many values are left, from so many on -/
def runB : List CM → Nat → Option Nat
  | [], v => some v
  | c :: r, v => if formedB c = true ∧ operN c.op ≤ v then runB r (v + 1 - operN c.op) else none
def rightB (cs : List CM) : Bool := decide (cs.length ≤ 32) && (runB cs 0 == some 1)

theorem operN_le (op : Int) : operN op ≤ 2 := by unfold operN; split; omega; split <;> omega
theorem run_at {cs : List CM} {k v : Nat} (hk : k < cs.length) : runB (cs.drop k) v = if formedB cs[k] = true ∧ operN cs[k].op ≤ v then runB (cs.drop (k + 1)) (v + 1 - operN cs[k].op) else none := by
  rw [List.drop_eq_getElem_cons hk]; rfl
end

section
theorem name_len {l : List UInt8} (h : nameB l = true) : l.length ≤ 12 := by
  rcases Nat.lt_or_ge 12 l.length with h1 | h1
  · rw [nameB_long h1] at h; cases h
  · exact h1
theorem formed_name {c : CM} (h : formedB c = true) : c.nm.length ≤ 12 := by
  unfold formedB at h
  split at h
  · simp at h; rw [h.1]; simp
  · split at h
    · simp at h; rw [h.1]; simp
    · split at h
      · simp at h; exact name_len h.2
      · simp at h; rw [h.2.2.2]; simp
theorem formed_op {c : CM} (h : formedB c = true) : 1 ≤ c.op ∧ c.op ≤ 23 := by
  unfold formedB at h
  split at h
  · omega
  · split at h
    · omega
    · split at h
      · omega
      · simp at h; exact ⟨h.1, h.2.1⟩
end

section
theorem own_form {w : World} {base : Nat} {e : TypeId} {size n : Nat} {v : Value} {xs : List Value} (h : w.ownsRow base e size v n xs) : (v = .slice none 0 0 ∧ n = 0) ∨ ∃ g cap, v = .slice (some ⟨g, 0, none⟩) n cap ∧ n ≤ cap ∧ cap ≤ maxLen := by
  rcases h.2 with ⟨hv, h0⟩ | ⟨g, cap, cur, hv, _, _, h1, h2, _⟩
  · exact Or.inl ⟨hv, h0⟩
  · exact Or.inr ⟨g, cap, hv, h1, h2⟩
end

section
open Go.RowKit

/-- what comes in as a slice of cells: nil, or cells that are read -/
def RdI (w : World) (v : Value) (cs : List CM) : Prop := (v = .slice none 0 0 ∧ cs = []) ∨ ∃ ad c, v = .slice (some ad) cs.length c ∧ RdC w v cs
theorem RdI.rd {w : World} {v : Value} {cs : List CM} (h : RdI w v cs) : RdC w v cs := by
  rcases h with ⟨rfl, rfl⟩ | ⟨_, _, _, h⟩
  · exact ⟨_, _, rfl, fun i hi => absurd hi (by simp)⟩
  · exact h
theorem RdI.below {w w' : World} {v : Value} {cs : List CM} (h : RdI w v cs) (hb : Below w.heap.size w w') : RdI w' v cs := by
  rcases h with h | ⟨ad, c, e, h⟩
  · exact Or.inl h
  · exact Or.inr ⟨ad, c, e, h.below hb⟩

theorem flat_get {cs : List CM} {j : Nat} {u : Value} (h : (flat cs)[j]? = some u) : ∃ i, ∃ hi : i < cs.length, (j = i * 3 ∧ u = .int .i64 cs[i].op) ∨ (j = i * 3 + 1 ∧ u = .int .i64 cs[i].a) ∨ (j = i * 3 + 2 ∧ u = bstr cs[i].nm) := by
  have hj : j < cs.length * 3 := by
    rw [← flat_length]
    exact (List.getElem?_eq_some_iff.1 h).1
  have hi : j / 3 < cs.length := by omega
  refine ⟨j / 3, hi, ?_⟩
  obtain ⟨f0, f1, f2⟩ := flat_at hi
  have hc : j = j / 3 * 3 ∨ j = j / 3 * 3 + 1 ∨ j = j / 3 * 3 + 2 := by omega
  rcases hc with e | e | e
  · rw [← e, h] at f0; exact Or.inl ⟨e, Option.some.inj f0⟩
  · rw [← e, h] at f1; exact Or.inr (Or.inl ⟨e, Option.some.inj f1⟩)
  · rw [← e, h] at f2; exact Or.inr (Or.inr ⟨e, Option.some.inj f2⟩)
theorem add_lit' (b o n : Nat) : (⟨b, o, none⟩ : Addr).add n = ⟨b, o + n, none⟩ := by unfold Addr.add; by_cases h : n = 0 <;> simp [h]
theorem RdC.news {w : World} {ad : Addr} {n c : Nat} {cs : List CM} (h : RdC w (.slice (some ad) n c) cs) (o : Obj) : ∀ j u, (flat cs)[j]? = some u → (w.alloc o).cell? (ad.add j) = some u := by
  intro j u hu
  obtain ⟨i, hi, hc⟩ := flat_get hu
  obtain ⟨A, c', hv, hr⟩ := h
  obtain ⟨b, k, rfl, d0, d1, d2⟩ := hr i hi
  simp only [Value.slice.injEq, Option.some.injEq] at hv
  rw [hv.1, add_lit']
  rcases hc with ⟨rfl, rfl⟩ | ⟨rfl, rfl⟩ | ⟨rfl, rfl⟩
  · exact (World.cell?_alloc_lt w _ _ (cell_lt d0)).trans d0
  · rw [← Nat.add_assoc]; exact (World.cell?_alloc_lt w _ _ (cell_lt d1)).trans d1
  · rw [← Nat.add_assoc]; exact (World.cell?_alloc_lt w _ _ (cell_lt d2)).trans d2
theorem flat_vals (cs : List CM) : ∀ u ∈ flat cs, u.oneCell' = true := by
  intro u hu
  obtain ⟨j, hj⟩ := List.mem_iff_getElem?.1 hu
  obtain ⟨i, hi, hc⟩ := flat_get hj
  rcases hc with ⟨_, rfl⟩ | ⟨_, rfl⟩ | ⟨_, rfl⟩ <;> rfl

theorem own_empty (w : World) (cs : Array Value) (h : cs = #[]) : (w.alloc (.cells cs 38)).ownsRow w.heap.size 38 3 (.slice (some ⟨w.heap.size, 0, none⟩) 0 0) 0 [] := by
  subst h
  exact World.ownsRow_made w #[] 0 (Nat.le_refl _) (by unfold maxLen; omega) rfl

theorem cm_eq {a b : CM} : a = b ↔ a.op = b.op ∧ a.a = b.a ∧ a.nm = b.nm := by cases a; cases b; simp

theorem own_slice {w : World} {base : Nat} {e : TypeId} {size n : Nat} {v : Value} {xs : List Value} (h : w.ownsRow base e size v n xs) : ∃ A c, v = .slice A n c := by
  rcases own_form h with ⟨rfl, rfl⟩ | ⟨g, cap, rfl, _⟩
  · exact ⟨_, _, rfl⟩
  · exact ⟨_, _, rfl⟩
end

section
open Go.RowKit

theorem op_cases5 (op : Int) : op = 1 ∨ op = 2 ∨ op = 5 ∨ op = 6 ∨ (op ≠ 1 ∧ op ≠ 2 ∧ op ≠ 5 ∧ op ≠ 6) := by omega
/-- the document's count of operands; -1: none -/
def opsR (c : CM) : Int := if formedB c = true then operN c.op else -1
theorem opsR_no {c : CM} (h : formedB c = false) : opsR c = -1 := by unfold opsR; rw [h]; rfl
theorem opsR_yes {c : CM} (h : formedB c = true) : opsR c = operN c.op := by unfold opsR; rw [if_pos h]
theorem ret_int {k : IntKind} {a b : Int} (h : a = b) : Ending.returned (.int k a) = .returned (.int k b) := by rw [h]
end

section
open Go.RowKit

def Names (cs : List CM) : Prop := ∀ c ∈ cs, c.nm.length ≤ 9223372036854775807
end

section
inductive T where
  | leaf (c : CM)
  | un (o : Int) (t : T)
  | bin (o : Int) (l r : T)

def post : T → List CM
  | .leaf c => [c]
  | .un o t => post t ++ [opC o]
  | .bin o l r => post l ++ post r ++ [opC o]
def OkT : T → Prop
  | .leaf c => formedB c = true ∧ operN c.op = 0
  | .un o t => 7 ≤ o ∧ o ≤ 10 ∧ OkT t
  | .bin o l r => 11 ≤ o ∧ o ≤ 23 ∧ OkT l ∧ OkT r
theorem operN_un {o : Int} (h : 7 ≤ o ∧ o ≤ 10) : operN o = 1 := by unfold operN; rw [if_neg (by omega), if_pos h]
theorem operN_bin {o : Int} (h : 11 ≤ o ∧ o ≤ 23) : operN o = 2 := by unfold operN; rw [if_neg (by omega), if_neg (by omega)]
theorem formed_opC {o : Int} (h : 7 ≤ o ∧ o ≤ 23) : formedB (opC o) = true := by
  unfold formedB opC
  simp only
  rw [if_neg (by omega), if_neg (by omega), if_neg (by omega), decide_eq_true (show 1 ≤ o by omega), decide_eq_true (show o ≤ 23 by omega)]; rfl
theorem opC_of {c : CM} (h : formedB c = true) (ho : 1 ≤ operN c.op) : c = opC c.op ∧ 7 ≤ c.op := by
  have h7 : 7 ≤ c.op := by
    have := formed_op h
    unfold operN at ho
    split at ho
    · omega
    · omega
  refine ⟨?_, h7⟩
  unfold formedB at h
  rw [if_neg (by omega), if_neg (by omega), if_neg (by omega)] at h
  simp at h
  cases c; simp at h; simp [opC, h]

theorem run_post {t : T} (h : OkT t) (r : List CM) (v : Nat) : runB (post t ++ r) v = runB r (v + 1) := by
  induction t generalizing r v with
  | leaf c =>
    show (if formedB c = true ∧ operN c.op ≤ v then runB r (v + 1 - operN c.op) else none) = _
    rw [h.2, if_pos ⟨h.1, Nat.zero_le _⟩]; rfl
  | un o t ih =>
    show runB (post t ++ [opC o] ++ r) v = _
    rw [List.append_assoc, ih h.2.2]
    show (if formedB (opC o) = true ∧ operN o ≤ v + 1 then runB r (v + 1 + 1 - operN o) else none) = _
    rw [operN_un ⟨h.1, h.2.1⟩, if_pos ⟨formed_opC ⟨h.1, by have := h.2.1; omega⟩, by omega⟩]; rfl
  | bin o l r' ihl ihr =>
    show runB (post l ++ post r' ++ [opC o] ++ r) v = _
    rw [List.append_assoc, List.append_assoc, ihl h.2.2.1, ihr h.2.2.2]
    show (if formedB (opC o) = true ∧ operN o ≤ v + 1 + 1 then runB r (v + 1 + 1 + 1 - operN o) else none) = _
    rw [operN_bin ⟨h.1, h.2.1⟩, if_pos ⟨formed_opC ⟨by have := h.1; omega, h.2.1⟩, by omega⟩]; rfl

/-- several trees, their cells one behind the other -/
def OkAll (ts : List T) : Prop := ∀ t ∈ ts, OkT t
theorem trees_of : ∀ (cs : List CM) (ts : List T) (n : Nat), OkAll ts → runB cs ts.length = some n → ∃ ts', OkAll ts' ∧ ts'.flatMap post = ts.flatMap post ++ cs ∧ ts'.length = n := by
  intro cs
  induction cs with
  | nil => intro ts n ho hr; exact ⟨ts, ho, by simp, by simpa [runB] using hr⟩
  | cons c r ih =>
    intro ts n ho hr
    unfold runB at hr
    split at hr
    · rename_i hc
      obtain ⟨hf, hle⟩ := hc
      have h2 := operN_le c.op
      have hcs : operN c.op = 0 ∨ operN c.op = 1 ∨ operN c.op = 2 := by omega
      rcases hcs with h0 | h0 | h0
      · rw [h0] at hr
        obtain ⟨ts', h1, h2, h3⟩ := ih (ts ++ [.leaf c]) n (by
          intro t ht
          rcases List.mem_append.1 ht with h | h
          · exact ho t h
          · simp at h; subst h; exact ⟨hf, h0⟩) (by simpa using hr)
        exact ⟨ts', h1, by rw [h2]; simp [post], h3⟩
      · obtain ⟨hc1, hc7⟩ := opC_of hf (by omega)
        rcases List.eq_nil_or_concat ts with rfl | ⟨ts0, a, rfl⟩
        · simp at hle; omega
        · rw [List.concat_eq_append] at *
          have h10 : c.op ≤ 10 := by
            unfold operN at h0
            split at h0
            · omega
            · split at h0 <;> omega
          obtain ⟨ts', h1, h2, h3⟩ := ih (ts0 ++ [.un c.op a]) n (by
            intro t ht
            rcases List.mem_append.1 ht with h | h
            · exact ho t (List.mem_append_left _ h)
            · simp at h; subst h; exact ⟨hc7, h10, ho a (by simp)⟩) (by rw [h0] at hr; simpa using hr)
          refine ⟨ts', h1, ?_, h3⟩
          rw [h2]
          simp only [List.flatMap_append, List.flatMap_cons, List.flatMap_nil, List.append_nil, List.append_assoc, post]
          rw [← hc1]; rfl
      · obtain ⟨hc1, hc7⟩ := opC_of hf (by omega)
        rcases List.eq_nil_or_concat ts with rfl | ⟨ts1, b, rfl⟩
        · simp at hle; omega
        · rw [List.concat_eq_append] at *
          rcases List.eq_nil_or_concat ts1 with rfl | ⟨ts0, a, rfl⟩
          · simp at hle; omega
          · rw [List.concat_eq_append] at *
            have h10 : 11 ≤ c.op := by
              unfold operN at h0
              split at h0
              · omega
              · split at h0 <;> omega
            obtain ⟨ts', h1, h2, h3⟩ := ih (ts0 ++ [.bin c.op a b]) n (by
              intro t ht
              rcases List.mem_append.1 ht with h | h
              · exact ho t (List.mem_append_left _ (List.mem_append_left _ h))
              · simp at h; subst h; exact ⟨h10, (formed_op hf).2, ho a (by simp), ho b (by simp)⟩) (by rw [h0] at hr; simpa using hr)
            refine ⟨ts', h1, ?_, h3⟩
            rw [h2]
            simp only [List.flatMap_append, List.flatMap_cons, List.flatMap_nil, List.append_nil, List.append_assoc, post]
            rw [← hc1]; rfl
    · cases hr

theorem right_tree {cs : List CM} (h : rightB cs = true) : ∃ t, OkT t ∧ post t = cs := by
  unfold rightB at h
  simp at h
  obtain ⟨ts, h1, h2, h3⟩ := trees_of cs [] 1 (by intro t ht; cases ht) h.2
  match ts, h3 with
  | [t], _ => exact ⟨t, h1 t (by simp), by simpa using h2⟩
theorem tree_right {t : T} (h : OkT t) (hl : (post t).length ≤ 32) : rightB (post t) = true := by
  unfold rightB
  have := run_post h [] 0
  rw [List.append_nil] at this
  rw [this, decide_eq_true hl]; rfl
end

section
/-- how many cells are walked back, the last first, till nothing is wanted; too many where there are too few -/
def begN : List CM → Nat → Nat
  | [], _ => 1000
  | c :: r, want => if want - 1 + operN c.op = 0 then 1 else 1 + begN r (want - 1 + operN c.op)

theorem beg_cons (c : CM) (r : List CM) (want : Nat) : begN (c :: r) want = if want - 1 + operN c.op = 0 then 1 else 1 + begN r (want - 1 + operN c.op) := rfl

theorem beg_tree {t : T} (h : OkT t) : ∀ (r : List CM) (k : Nat), begN ((post t).reverse ++ r) (k + 1) = if k = 0 then (post t).length else (post t).length + begN r k := by
  induction t with
  | leaf c =>
    intro r k
    show begN (c :: r) (k + 1) = _
    rw [beg_cons, h.2, Nat.add_sub_cancel, Nat.add_zero]
    rfl
  | un o t ih =>
    intro r k
    have e : (post (.un o t)).reverse ++ r = opC o :: ((post t).reverse ++ r) := by simp [post]
    have hl : (post (.un o t)).length = 1 + (post t).length := by simp [post]; omega
    rw [e, hl]
    rw [beg_cons, show operN (opC o).op = 1 from operN_un ⟨h.1, h.2.1⟩, Nat.add_sub_cancel, if_neg (by omega), ih h.2.2 r k]
    split <;> omega
  | bin o l r' ihl ihr =>
    intro r k
    have e : (post (.bin o l r')).reverse ++ r = opC o :: ((post r').reverse ++ ((post l).reverse ++ r)) := by simp [post]
    have hl : (post (.bin o l r')).length = 1 + (post r').length + (post l).length := by simp [post]; omega
    rw [e, hl]
    rw [beg_cons, show operN (opC o).op = 2 from operN_bin ⟨h.1, h.2.1⟩, Nat.add_sub_cancel, if_neg (by omega), ihr h.2.2.2 _ (k + 1), if_neg (by omega), ihl h.2.2.1 r k]
    split <;> omega
end

section
open Go.RowKit

theorem begN_pos (l : List CM) (k : Nat) : 1 ≤ begN l k := by
  cases l with
  | nil => show 1 ≤ 1000; omega
  | cons c r => rw [beg_cons]; split <;> omega
theorem beg_step {cs : List CM} {k v p : Nat} (hk : k < cs.length) (hp : p ≤ k) (h : begN (cs.take (k + 1)).reverse v = k + 1 - p) :
    (v - 1 + operN (cs[k]).op = 0 → k = p) ∧ (v - 1 + operN (cs[k]).op ≠ 0 → p < k ∧ begN (cs.take (k - 1 + 1)).reverse (v - 1 + operN (cs[k]).op) = k - 1 + 1 - p) := by
  rw [List.take_succ_eq_append_getElem hk, List.reverse_append] at h
  change begN (cs[k] :: (cs.take k).reverse) v = _ at h
  rw [beg_cons] at h
  refine ⟨fun h0 => by rw [if_pos h0] at h; omega, fun h0 => ?_⟩
  rw [if_neg h0] at h
  have h1 := begN_pos (cs.take k).reverse (v - 1 + operN (cs[k]).op)
  by_cases hk0 : k = 0
  · subst hk0
    have : begN (cs.take 0).reverse (v - 1 + operN (cs[0]).op) = 1000 := rfl
    omega
  · have e : k - 1 + 1 = k := by omega
    rw [e]
    exact ⟨by omega, by omega⟩
end
end Go.Proofs.Ytmpelnbhlhifeaa
