/- The document's sign: an operator's text and strength. -/
import Derived.Test.YtfgocdeaanalgaaDoorF7
import Derived.Deep.QuietTactic
import Derived.BigQuiet
import Derived.Laws.Tables
import Derived.Laws.CopyOwn
namespace Go.Proofs.YtfgocdeaanalgaaDoor
open Go.RowKit

/-- an operator's text, and its strength, as the document has them -/
def sgT (k : Nat) : List UInt8 := if k = 7 then [45] else if k = 8 then [33] else if k < 11 then [] else (tabAt (k - 11)).2.1
def pwT (k : Nat) : Int := if k = 7 ∨ k = 8 then 6 else if k = 0 then 0 else if k < 11 then 7 else (tabAt (k - 11)).2.2

abbrev sgArr : Array Value := #[.string ⟨#[]⟩, .string ⟨#[]⟩, .string ⟨#[]⟩, .string ⟨#[]⟩, .string ⟨#[]⟩, .string ⟨#[]⟩, .string ⟨#[]⟩, .string ⟨#[45]⟩, .string ⟨#[33]⟩, .string ⟨#[]⟩, .string ⟨#[]⟩, .string ⟨#[43]⟩, .string ⟨#[45]⟩, .string ⟨#[42]⟩, .string ⟨#[47]⟩, .string ⟨#[37]⟩, .string ⟨#[61]⟩, .string ⟨#[33, 61]⟩, .string ⟨#[60]⟩, .string ⟨#[60, 61]⟩, .string ⟨#[62]⟩, .string ⟨#[62, 61]⟩, .string ⟨#[38]⟩, .string ⟨#[124]⟩]
abbrev pwArr : Array Value := #[.int .i64 0, .int .i64 7, .int .i64 7, .int .i64 7, .int .i64 7, .int .i64 7, .int .i64 7, .int .i64 6, .int .i64 6, .int .i64 7, .int .i64 7, .int .i64 4, .int .i64 4, .int .i64 5, .int .i64 5, .int .i64 5, .int .i64 3, .int .i64 3, .int .i64 3, .int .i64 3, .int .i64 3, .int .i64 3, .int .i64 2, .int .i64 1]
theorem sgArr_at (k : Nat) (hk : k < 24) : sgArr[k]? = some (.string ⟨(sgT k).toArray⟩) ∧ pwArr[k]? = some (.int .i64 (pwT k)) :=
  match k, hk with
  | 0, _ => ⟨rfl, rfl⟩
  | 1, _ => ⟨rfl, rfl⟩
  | 2, _ => ⟨rfl, rfl⟩
  | 3, _ => ⟨rfl, rfl⟩
  | 4, _ => ⟨rfl, rfl⟩
  | 5, _ => ⟨rfl, rfl⟩
  | 6, _ => ⟨rfl, rfl⟩
  | 7, _ => ⟨rfl, rfl⟩
  | 8, _ => ⟨rfl, rfl⟩
  | 9, _ => ⟨rfl, rfl⟩
  | 10, _ => ⟨rfl, rfl⟩
  | 11, _ => ⟨rfl, rfl⟩
  | 12, _ => ⟨rfl, rfl⟩
  | 13, _ => ⟨rfl, rfl⟩
  | 14, _ => ⟨rfl, rfl⟩
  | 15, _ => ⟨rfl, rfl⟩
  | 16, _ => ⟨rfl, rfl⟩
  | 17, _ => ⟨rfl, rfl⟩
  | 18, _ => ⟨rfl, rfl⟩
  | 19, _ => ⟨rfl, rfl⟩
  | 20, _ => ⟨rfl, rfl⟩
  | 21, _ => ⟨rfl, rfl⟩
  | 22, _ => ⟨rfl, rfl⟩
  | 23, _ => ⟨rfl, rfl⟩
  | n + 24, h => absurd h (by omega)

theorem wpList_build_to {ops : Array Oper} {rest : List Oper} {o : Oper} {a : Act} {w : World} {Q : Exit → Act → World → Prop} (hg : o.guard = none) (t : TypeId) (parts : Array (Nat × Operand)) (ho : o.op = .build t parts) (cells : Array Value)
    (hf : Tryd.prog.built t (parts.map fun (i, x) => (i, a.eval x)).toList = some cells)
    (h : wpList Tryd.prog ops Q rest (a.put o.dst (.agg cells)) w) : wpList Tryd.prog ops Q (o :: rest) a w := by
  refine wpList_build hg t parts ho (by rw [hf]; rfl) ?_
  rw [hf]; exact h
abbrev sgParts : Array (Nat × Operand) := #[(9, .const (.string ⟨#[]⟩)), (7, .const (.string ⟨#[45]⟩)), (8, .const (.string ⟨#[33]⟩)), (11, .const (.string ⟨#[43]⟩)), (12, .const (.string ⟨#[45]⟩)), (13, .const (.string ⟨#[42]⟩)), (14, .const (.string ⟨#[47]⟩)), (15, .const (.string ⟨#[37]⟩)), (16, .const (.string ⟨#[61]⟩)), (17, .const (.string ⟨#[33, 61]⟩)), (18, .const (.string ⟨#[60]⟩)), (19, .const (.string ⟨#[60, 61]⟩)), (20, .const (.string ⟨#[62]⟩)), (21, .const (.string ⟨#[62, 61]⟩)), (22, .const (.string ⟨#[38]⟩)), (23, .const (.string ⟨#[124]⟩))]
abbrev pwParts : Array (Nat × Operand) := #[(0, .const (.int .i64 0)), (1, .const (.int .i64 7)), (2, .const (.int .i64 7)), (3, .const (.int .i64 7)), (4, .const (.int .i64 7)), (5, .const (.int .i64 7)), (6, .const (.int .i64 7)), (7, .const (.int .i64 6)), (8, .const (.int .i64 6)), (9, .const (.int .i64 7)), (10, .const (.int .i64 7)), (11, .const (.int .i64 4)), (12, .const (.int .i64 4)), (13, .const (.int .i64 5)), (14, .const (.int .i64 5)), (15, .const (.int .i64 5)), (16, .const (.int .i64 3)), (17, .const (.int .i64 3)), (18, .const (.int .i64 3)), (19, .const (.int .i64 3)), (20, .const (.int .i64 3)), (21, .const (.int .i64 3)), (22, .const (.int .i64 2)), (23, .const (.int .i64 1))]
theorem sg_built (a : Act) : Tryd.prog.built 74 (sgParts.map fun (i, x) => (i, a.eval x)).toList = some sgArr := by kernel_rfl
theorem pw_built (a : Act) : Tryd.prog.built 75 (pwParts.map fun (i, x) => (i, a.eval x)).toList = some pwArr := by kernel_rfl
theorem sg_one : sgArr.all (·.oneCell') = true := by kernel_rfl
theorem pw_one : pwArr.all (·.oneCell') = true := by kernel_rfl
theorem sg_size : (Tryd.prog.info? 74).map (·.size) = some sgArr.size := by kernel_rfl
theorem pw_size : (Tryd.prog.info? 75).map (·.size) = some pwArr.size := by kernel_rfl
theorem pw_new (w : World) (o x : Obj) (cs : Array Value) : (((w.alloc o).setRow w.heap.size cs).alloc x).heap[w.heap.size + 1]? = some x := by
  have := heap_alloc_new ((w.alloc o).setRow w.heap.size cs) x
  simpa using this

def SignPost (k : Nat) (w : World) (e : Ending) (w' : World) : Prop := e = .returned (.tuple #[bstr (sgT k), .int .i64 (pwT k)]) ∧ Below w.heap.size w w'
theorem sign_fin {k : Nat} {w w' : World} {X : ByteArray} {n : Int} (hX : ⟨(sgT k).toArray⟩ = X) (hn : pwT k = n) (hb : Below w.heap.size w w') : SignPost k w (.returned (.tuple #[.string X, .int .i64 n])) w' := by
  subst hX hn; exact ⟨rfl, hb⟩

abbrev sgZero : Array Value := #[.string ⟨#[]⟩, .string ⟨#[]⟩, .string ⟨#[]⟩, .string ⟨#[]⟩, .string ⟨#[]⟩, .string ⟨#[]⟩, .string ⟨#[]⟩, .string ⟨#[]⟩, .string ⟨#[]⟩, .string ⟨#[]⟩, .string ⟨#[]⟩, .string ⟨#[]⟩, .string ⟨#[]⟩, .string ⟨#[]⟩, .string ⟨#[]⟩, .string ⟨#[]⟩, .string ⟨#[]⟩, .string ⟨#[]⟩, .string ⟨#[]⟩, .string ⟨#[]⟩, .string ⟨#[]⟩, .string ⟨#[]⟩, .string ⟨#[]⟩, .string ⟨#[]⟩]
abbrev pwZero : Array Value := #[.int .i64 0, .int .i64 0, .int .i64 0, .int .i64 0, .int .i64 0, .int .i64 0, .int .i64 0, .int .i64 0, .int .i64 0, .int .i64 0, .int .i64 0, .int .i64 0, .int .i64 0, .int .i64 0, .int .i64 0, .int .i64 0, .int .i64 0, .int .i64 0, .int .i64 0, .int .i64 0, .int .i64 0, .int .i64 0, .int .i64 0, .int .i64 0]
theorem sign_world (k : Nat) (hk : k < 24) (w : World) (S : ByteArray) (P : Int) (hS : ⟨(sgT k).toArray⟩ = S) (hP : pwT k = P) : ∀ W, (((w.alloc (.cells sgZero 74)).setRow w.heap.size sgArr).alloc (.cells pwZero 75)).setRow (w.heap.size + 1) pwArr = W →
    W.cell? ⟨w.heap.size, k, none⟩ = some (.string S) ∧ W.cell? ⟨w.heap.size + 1, k, none⟩ = some (.int .i64 P) ∧ Below w.heap.size w W := by
  rintro W rfl
  obtain ⟨h1, h2⟩ := sgArr_at k hk
  rw [hS] at h1
  rw [hP] at h2
  have e0 : (w.alloc (.cells sgZero 74)).heap[w.heap.size]? = some (.cells sgZero 74 (0, 0)) := heap_alloc_new w _
  have e1 : ((w.alloc (.cells sgZero 74)).setRow w.heap.size sgArr).heap[w.heap.size]? = some (.cells sgArr 74 (0, 0)) := setRow_heap _ _ _ _ _ _ e0
  have e2 := pw_new w (.cells sgZero 74) (.cells pwZero 75) sgArr
  have b1 : Below w.heap.size w ((w.alloc (.cells sgZero 74)).setRow w.heap.size sgArr) := below_setRow ((Below.refl _ _).alloc (Nat.le_refl _) _) (Nat.le_refl _) _
  have b2 : Below w.heap.size w ((((w.alloc (.cells sgZero 74)).setRow w.heap.size sgArr).alloc (.cells pwZero 75)).setRow (w.heap.size + 1) pwArr) := below_setRow (b1.alloc (by simp) _) (Nat.le_succ _) _
  have b3 : Below (w.heap.size + 1) ((w.alloc (.cells sgZero 74)).setRow w.heap.size sgArr) ((((w.alloc (.cells sgZero 74)).setRow w.heap.size sgArr).alloc (.cells pwZero 75)).setRow (w.heap.size + 1) pwArr) := below_setRow ((Below.refl _ _).alloc (by simp) _) (Nat.le_refl _) _
  refine ⟨?_, ?_, b2⟩
  · exact (cell_of_row _ w.heap.size k _ _ _ ((b3.block _ (by omega)).trans e1)).trans h1
  · exact (cell_of_row _ (w.heap.size + 1) k _ _ _ (setRow_heap _ _ _ pwArr _ _ e2)).trans h2

set_option maxRecDepth 100000 in
set_option maxHeartbeats 2000000 in
theorem sign_any (k : Nat) (hk : k < 24) (w : World) : Calls Tryd.prog 32 #[.int .i64 k] w (SignPost k w) := by
  obtain ⟨S, hS⟩ : ∃ S : ByteArray, ⟨(sgT k).toArray⟩ = S := ⟨_, rfl⟩
  obtain ⟨P, hP⟩ : ∃ P, pwT k = P := ⟨_, rfl⟩
  have HF := Lib.hid (sign_world k hk w S P hS hP)
  have HS := Lib.hid hS; have HP := Lib.hid hP
  have hk0 : (0 : Int) ≤ (k : Int) := by omega
  have hk1 : (k : Int) < 24 := by omega
  clear hS hP
  go_enter Tryd.func32, Tryd.ntmps32
  go_wp2_with (first
    | (refine wpList_build_to rfl 74 sgParts rfl sgArr (sg_built _) ?_)
    | (refine wpList_build_to rfl 75 pwParts rfl pwArr (pw_built _) ?_)
    | (refine wpList_store_row rfl 74 _ _ rfl w.heap.size sgArr rfl rfl 74 _ (heap_alloc_new w _) sg_size rfl sg_one ?_)
    | (refine wpList_store_row rfl 75 _ _ rfl (w.heap.size + 1) pwArr rfl rfl 75 _ (pw_new w _ _ _) pw_size rfl pw_one ?_))
  generalize hW : (((w.alloc (.cells sgZero 74)).setRow w.heap.size sgArr).alloc (.cells pwZero 75)).setRow (w.heap.size + 1) pwArr = W
  obtain ⟨c0, c1, hb⟩ := HF.out W hW
  have HB := Lib.hid hb
  clear hb hW
  generalize Value.agg sgArr = A6
  generalize Value.agg pwArr = A7
  go_quiet (fail)
  go_wp2
  go_ret2
  exact sign_fin HS.out HP.out ⟨HB.out.os, HB.out.tape, HB.out.output, HB.out.size, HB.out.block⟩
end Go.Proofs.YtfgocdeaanalgaaDoor
