/- Layer 16: the reader in memory; what it leaves; a few bytes, a small number, a number of eight bytes. -/
import Derived.Test.YtlbhkendbngmaaaJi
namespace Go.Proofs.Ytlbhkendbngmaaa.Wi
open Go.RowKit
set_option maxRecDepth 100000

def bstr (l : Bytes) : Value := .string ⟨l.toArray⟩
def giveV : Value := .iface 28 (.int .i64 1)
def gaveUp : Ending := .panicked [{ v := giveV, recovered := false }]
/-- the reader in its box: what it has still to read -/
def RB (g : Nat) (s : Bytes) (w : World) : Prop := w.heap[g]? = some (.cells #[bstr s] 70 (0, 0))
/-- what a call of the reader's leaves: what p reads, or it has given up; all but the box lies as it lay -/
def Got {α : Type} (g : Nat) (s : Bytes) (p : P α) (V : α → Value → World → Prop) (w : World) (e : Ending) (w' : World) : Prop :=
  w.grownBy w' (some g) ∧ match p s with
    | some (x, r) => (∃ v, e = .returned v ∧ V x v w') ∧ RB g r w'
    | none => e = gaveUp
theorem grown_refl (w : World) (r : Option Nat) : w.grownBy w r := ⟨rfl, rfl, rfl, Nat.le_refl _, fun _ _ _ => rfl⟩
theorem grown_trans {w w1 w2 : World} {r : Option Nat} (h : w.grownBy w1 r) (k : w1.grownBy w2 r) : w.grownBy w2 r :=
  ⟨k.os.trans h.os, k.tape.trans h.tape, k.output.trans h.output, Nat.le_trans h.size k.size, fun q hq hr => (k.block q (Nat.lt_of_lt_of_le hq h.size) hr).trans (h.block q hq hr)⟩
theorem grown_below {w w1 : World} (h : Below w.heap.size w w1) (r : Option Nat) : w.grownBy w1 r := ⟨h.os, h.tape, h.output, h.size, fun k hk _ => h.block k hk⟩
theorem RB.lt {g : Nat} {s : Bytes} {w : World} (h : RB g s w) : g < w.heap.size := lt_of_heap h
theorem RB.cell {g : Nat} {s : Bytes} {w : World} (h : RB g s w) : w.cell? ⟨g, 0, none⟩ = some (bstr s) := (cell_of_row w g 0 _ _ _ h).trans rfl
theorem RB.frozen {g : Nat} {s : Bytes} {w : World} (h : RB g s w) : w.frozen? ⟨g, 0, none⟩ = false := frozen_of_row w g 0 _ _ h
theorem RB.set {g : Nat} {s : Bytes} {w : World} (h : RB g s w) (r : Bytes) : RB g r (w.setCell ⟨g, 0, none⟩ (bstr r)) := by
  unfold RB at *
  rw [heap_setCell_same w g 0 _ _ _ h]; rfl
theorem RB.below {g : Nat} {s : Bytes} {w w' : World} (h : RB g s w) (hb : Below w.heap.size w w') : RB g s w' := (hb.block g h.lt).trans h
theorem giveUp_any (w : World) (a : Value) : Calls Try.prog 56 #[a] w fun e w' => e = gaveUp ∧ w' = w := by
  go_enter Try.func56, Try.ntmps56
  go_wp2
  exact ⟨rfl, rfl, rfl⟩
theorem ext_take (s : Bytes) (n : Nat) : (⟨s.toArray⟩ : ByteArray).extract 0 n = ⟨(s.take n).toArray⟩ := by
  apply ByteArray.ext
  simp [ByteArray.data_extract]
theorem ext_drop (s : Bytes) (n : Nat) : (⟨s.toArray⟩ : ByteArray).extract n s.length = ⟨(s.drop n).toArray⟩ := by
  apply ByteArray.ext
  simp [ByteArray.data_extract, List.take_of_length_le]
theorem bsz (s : Bytes) : (⟨s.toArray⟩ : ByteArray).size = s.length := rfl
set_option maxHeartbeats 1000000 in
theorem take_any {g : Nat} {s : Bytes} {w : World} (h : RB g s w) (n : Nat) (_hs : s.length ≤ 4611686018427387904) (_hn : n ≤ 4611686018427387904) :
    Calls Try.prog 50 #[wp_ g, .int .i64 n] w fun e w' => Got g s (takeP n) (fun l v _ => v = bstr l) w e w' := by
  have c0 := h.cell
  have f0 := h.frozen
  have H := Lib.hid h
  have HT := Lib.hid (ext_take s n)
  have HD := Lib.hid (ext_drop s n)
  have hsz := bsz s
  unfold Got takeP bstr wp_ at *
  generalize (⟨s.toArray⟩ : ByteArray) = S at *
  clear h
  by_cases hl : n ≤ s.length
  · rw [if_pos hl]
    have h1 : ¬ (s.length : Int) < n := by omega
    have h2 : n ≤ S.size := by omega
    have h3 : (n : Int) ≤ (S.size : Int) := by omega
    have h4 : ¬ (S.size : Int) < n := by omega
    go_enter Try.func50, Try.ntmps50
    go_wp2
    go_ret
    rw [HT.out, HD.out]
    exact ⟨grown_set w g 0 _, rfl, H.out.set (s.drop n)⟩
  · rw [if_neg hl]
    have h1 : (s.length : Int) < n := by omega
    have h2 : (S.size : Int) < n := by omega
    have HG := Lib.hid (giveUp_any w (.pointer (some ⟨g, 0, none⟩)))
    go_enter Try.func50, Try.ntmps50
    go_wp2_with fail
    refine HG.out.mono ?_
    rintro e w1 ⟨rfl, rfl⟩
    exact ⟨rfl, grown_refl _ _, rfl⟩
end Go.Proofs.Ytlbhkendbngmaaa.Wi
