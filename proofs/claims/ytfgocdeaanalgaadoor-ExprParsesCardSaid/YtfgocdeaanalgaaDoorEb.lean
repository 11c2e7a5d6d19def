/- The reader's memory: its block (text, place, cells), the list of cells that is the call's own; what draws, new blocks, stores and appends leave of it. -/
import Derived.Test.YtfgocdeaanalgaaDoorEa
import Derived.Laws.OwnMore
import Derived.OneCell
import Derived.Deep.Onto
import Derived.Deep.QuietTactic
import Derived.BigQuiet
import Derived.Deep.Draws
import Derived.RegionTactic
import Derived.Deep.RegionLaw
import Derived.Laws.Rows
namespace Go.Proofs.YtfgocdeaanalgaaDoor
open Go.RowKit

def bstr (l : List UInt8) : Value := .string ⟨l.toArray⟩
theorem bstr_of (s : ByteArray) : bstr s.data.toList = .string s := rfl

/-- a cell's three places in memory; a list's -/
def cellV (c : CM) : List Value := [.int .i64 c.op, .int .i64 c.a, bstr c.nm]
def flat (cs : List CM) : List Value := cs.flatMap cellV
theorem flat_nil : flat [] = [] := rfl
theorem flat_append (a b : List CM) : flat (a ++ b) = flat a ++ flat b := by simp [flat]
theorem flat_one (c : CM) : flat [c] = cellV c := by simp [flat]
theorem flat_length (cs : List CM) : (flat cs).length = cs.length * 3 := by
  induction cs with
  | nil => rfl
  | cons c r ih => show (cellV c ++ flat r).length = _; rw [List.length_append, ih]; simp [cellV]; omega
theorem flat_at {cs : List CM} {i : Nat} (h : i < cs.length) : (flat cs)[i * 3]? = some (.int .i64 cs[i].op) ∧ (flat cs)[i * 3 + 1]? = some (.int .i64 cs[i].a) ∧ (flat cs)[i * 3 + 2]? = some (bstr cs[i].nm) := by
  induction cs generalizing i with
  | nil => simp at h
  | cons c r ih =>
    have e : flat (c :: r) = .int .i64 c.op :: .int .i64 c.a :: bstr c.nm :: flat r := rfl
    rw [e]
    cases i with
    | zero => exact ⟨rfl, rfl, rfl⟩
    | succ j =>
      have := ih (i := j) (by simpa using h)
      have h1 : (j + 1) * 3 = j * 3 + 3 := by omega
      rw [h1]
      exact this

theorem Tryd.infoCell : (Tryd.prog.info? 38).map (fun i => (i.zero, i.size, i.bytes)) = some (some (.agg #[.int .i64 0, .int .i64 0, .string ByteArray.empty]), 3, 32) := by kernel_rfl

/-- no block but g and lists of cells has changed since wa -/
structure Keeps (g : Nat) (wa w : World) : Prop where
  size : wa.heap.size ≤ w.heap.size
  same : ∀ b, b < wa.heap.size → b ≠ g → (∀ cs fr, wa.heap[b]? ≠ some (.cells cs 38 fr)) → w.heap[b]? = wa.heap[b]?

theorem Keeps.refl (g : Nat) (w : World) : Keeps g w w := ⟨Nat.le_refl _, fun _ _ _ _ => rfl⟩
theorem Keeps.trans {g : Nat} {a b c : World} (h : Keeps g a b) (k : Keeps g b c) : Keeps g a c :=
  ⟨Nat.le_trans h.size k.size, fun i hi hg hn => by
    have e := h.same i hi hg hn
    rw [k.same i (Nat.lt_of_lt_of_le hi h.size) hg (fun cs fr => by rw [e]; exact hn cs fr), e]⟩
theorem Keeps.below {g : Nat} {a b c : World} (h : Keeps g a b) (k : Below b.heap.size b c) : Keeps g a c :=
  h.trans ⟨k.size, fun i hi _ _ => k.block i hi⟩
theorem Keeps.setCell {g : Nat} {a b : World} (h : Keeps g a b) (j : Nat) (u : Value) : Keeps g a (b.setCell ⟨g, j, none⟩ u) :=
  h.trans ⟨by simp, fun i _ hg _ => heap_setCell_other b _ i u hg⟩
theorem Keeps.grown {g : Nat} {a b c : World} {base n : Nat} {v : Value} {xs : List Value} (h : Keeps g a b) (hown : b.ownsRow base 38 3 v n xs) (k : b.grownBy c v.ownBlock) : Keeps g a c :=
  h.trans ⟨k.size, fun i hi _ hn => k.block i hi (fun e => by
    rcases hown.2 with ⟨rfl, _⟩ | ⟨g', cap, cur, rfl, _, hh, _⟩
    · simp [Value.ownBlock] at e
    · have e : i = g' := by simpa [Value.ownBlock] using e
      subst e
      exact hn _ _ hh)⟩

/-- the reader at block g: what it reads, where it stands, what it put down; all that was below the call's beginning is as it was -/
structure St (w0 wa : World) (g : Nat) (s : ByteArray) (p : Nat) (cs : List CM) (w : World) : Prop where
  box : ∃ v, w.heap[g]? = some (.cells #[.string s, .int .i64 p, v] 48 (0, 0)) ∧ w.ownsRow w0.heap.size 38 3 v cs.length (flat cs)
  ge : w0.heap.size ≤ g
  below : Below w0.heap.size w0 w
  keep : Keeps g wa w

section
variable {w0 wa w w1 w2 : World} {g : Nat} {s : ByteArray} {p p' : Nat} {cs cs' : List CM}

theorem grown_of_below {w w' : World} (h : Below w.heap.size w w') (row : Option Nat) : w.grownBy w' row := ⟨h.os, h.tape, h.output, h.size, fun k hk _ => h.block k hk⟩
theorem own_below {base : Nat} {e : TypeId} {size n : Nat} {v : Value} {xs : List Value} (h : w.ownsRow base e size v n xs) (hb : Below w.heap.size w w1) : w1.ownsRow base e size v n xs :=
  h.kept (grown_of_below hb none) (by cases hv : v.ownBlock with
    | none => exact Or.inl rfl
    | some k => exact Or.inr (by simp))

theorem St.lt (h : St w0 wa g s p cs w) : g < w.heap.size := by
  obtain ⟨v, hb, _⟩ := h.box
  exact lt_of_block hb
theorem St.size (h : St w0 wa g s p cs w) : w0.heap.size ≤ w.heap.size := h.below.size

theorem St.to_below (h : St w0 wa g s p cs w) (hb : Below w.heap.size w w1) : St w0 wa g s p cs w1 := by
  obtain ⟨v, hbox, hown⟩ := h.box
  exact ⟨⟨v, (hb.block g h.lt).trans hbox, own_below hown hb⟩, h.ge, h.below.trans (hb.mono h.size), h.keep.below hb⟩
theorem St.drewN (h : St w0 wa g s p cs w) (n : Nat) : St w0 wa g s p cs (w.drewN n) := by
  obtain ⟨v, hbox, hown⟩ := h.box
  exact ⟨⟨v, hbox, hown⟩, h.ge, ⟨h.below.os, h.below.tape, h.below.output, h.below.size, h.below.block⟩, ⟨h.keep.size, h.keep.same⟩⟩
theorem St.alloc (h : St w0 wa g s p cs w) (o : Obj) : St w0 wa g s p cs (w.alloc o) := h.to_below ((Below.refl _ _).alloc (Nat.le_refl _) o)

/-- no list of cells lies in the reader's own block -/
theorem own_ne {v : Value} {n : Nat} {xs : List Value} {o : Array Value} (hown : w.ownsRow w0.heap.size 38 3 v n xs) (hbox : w.heap[g]? = some (.cells o 48 (0, 0))) : v.ownBlock ≠ some g := by
  rcases hown.2 with ⟨rfl, _⟩ | ⟨g', cap, cur, rfl, _, hh, _⟩
  · simp [Value.ownBlock]
  · intro e
    have e : g' = g := by simpa [Value.ownBlock] using e
    subst e
    rw [hbox] at hh
    have := Option.some.inj hh
    simp at this

theorem St.setAt (h : St w0 wa g s p cs w) (q : Int) (hq : q = (p' : Int)) : St w0 wa g s p' cs (w.setCell ⟨g, 1, none⟩ (.int .i64 q)) := by
  subst hq
  obtain ⟨v, hbox, hown⟩ := h.box
  refine ⟨⟨v, ?_, ownsRow_setCell_other hown (own_ne hown hbox) _⟩, h.ge, h.below.setCell h.ge _, h.keep.setCell _ _⟩
  rw [heap_setCell_same w g 1 _ _ _ hbox]; rfl

/-- behind an append: v' in the block of before, or in a new one -/
theorem St.push {v v' : Value} {xs : List Value} (h : St w0 wa g s p cs w) (hbox : w.heap[g]? = some (.cells #[.string s, .int .i64 p, v] 48 (0, 0))) (hown0 : w.ownsRow w0.heap.size 38 3 v cs.length xs)
    (hb : Below w.heap.size w w1) (hown : w2.ownsRow w0.heap.size 38 3 v' cs'.length (flat cs')) (hg : w1.grownBy w2 v.ownBlock) : St w0 wa g s p cs' (w2.setCell ⟨g, 2, none⟩ v') := by
  have h1 := h.to_below hb
  have hne := own_ne hown0 hbox
  have hbox1 : w1.heap[g]? = some (.cells #[.string s, .int .i64 p, v] 48 (0, 0)) := (hb.block g h.lt).trans hbox
  have hbox2 : w2.heap[g]? = some (.cells #[.string s, .int .i64 p, v] 48 (0, 0)) := (hg.block g h1.lt (fun e => hne e.symm)).trans hbox1
  have hown1 := own_below hown0 hb
  refine ⟨⟨v', ?_, ownsRow_setCell_other hown (own_ne hown hbox2) _⟩, h.ge, ?_, (h1.keep.grown hown1 hg).setCell _ _⟩
  · rw [heap_setCell_same w2 g 2 _ _ _ hbox2]; rfl
  · exact (h1.below.grown hg h1.size (fun k hk => (hown0.lt k hk).1)).setCell h.ge _

theorem St.re {wb : World} (h : St w0 wb g s p cs w) (hk : Keeps g wa wb) : St w0 wa g s p cs w := ⟨h.box, h.ge, h.below, hk.trans h.keep⟩
theorem St.here (h : St w0 wa g s p cs w) : St w0 w g s p cs w := ⟨h.box, h.ge, h.below, Keeps.refl _ _⟩

/-- what the walk wants of the reader's block -/
theorem St.at_ (h : St w0 wa g s p cs w) : ∃ v, (w.cell? ⟨g, 0, none⟩ = some (.string s) ∧ w.cell? ⟨g, 1, none⟩ = some (.int .i64 p) ∧ w.cell? ⟨g, 2, none⟩ = some v ∧ w.frozen? ⟨g, 1, none⟩ = false ∧ w.frozen? ⟨g, 2, none⟩ = false) ∧
    w.heap[g]? = some (.cells #[.string s, .int .i64 p, v] 48 (0, 0)) ∧ w.ownsRow w0.heap.size 38 3 v cs.length (flat cs) := by
  obtain ⟨v, hbox, hown⟩ := h.box
  exact ⟨v, ⟨(cell_of_row w g 0 _ _ _ hbox).trans rfl, (cell_of_row w g 1 _ _ _ hbox).trans rfl, (cell_of_row w g 2 _ _ _ hbox).trans rfl, frozen_of_row w g 1 _ _ hbox, frozen_of_row w g 2 _ _ hbox⟩, hbox, hown⟩
end

def rp (g : Nat) : Value := .pointer (some ⟨g, 0, none⟩)

theorem lst_at (s : ByteArray) (p : Nat) (h : p < s.size) : nx s.data.toList p = s[p] := by
  have hl : s.data.toList.length = s.size := (Lib.size_eq s).symm
  rw [nx_at (by omega)]; simp; rfl

/-- (*reader).next -/
theorem next_any {w0 wa w : World} {g : Nat} {s : ByteArray} {p : Nat} {cs : List CM} (h : St w0 wa g s p cs w) (hp : p ≤ s.size) :
    Calls Tryd.prog 47 #[rp g] w fun e w' => e = .returned (.int .u8 (nx s.data.toList p).toNat) ∧ ∃ n, w' = w.drewN n := by
  have hl : s.data.toList.length = s.size := (Lib.size_eq s).symm
  obtain ⟨v, ⟨c0, c1, c2, f1, f2⟩, hbox, hown⟩ := h.at_
  clear hbox hown h
  unfold rp
  by_cases he : p = s.size
  · subst he
    rw [nx_end (by omega)]
    go_enter Tryd.func47, Tryd.ntmps47
    go_wp2
    go_quiet (fail)
    go_wp2
    go_ret
    exact ⟨rfl, nq, rfl⟩
  · have hlt : p < s.size := by omega
    rw [lst_at s p hlt]
    have hne : ((p : Int) == (s.size : Int)) = false := beq_eq_false_iff_ne.2 (by omega)
    go_enter Tryd.func47, Tryd.ntmps47
    go_wp2
    go_quiet (fail)
    go_wp2
    go_quiet (fail)
    go_wp2
    go_ret
    exact ⟨rfl, _, World.drewN_drewN _ _ _⟩
end Go.Proofs.YtfgocdeaanalgaaDoor
