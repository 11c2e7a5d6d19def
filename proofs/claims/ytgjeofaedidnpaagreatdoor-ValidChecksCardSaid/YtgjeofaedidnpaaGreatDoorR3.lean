/- Own texts, joined: Eb, Shelf, Eg, Eh, Di, Eo, Eq, En, Ep, Er, Es, Et, Eu, F1. -/
import Derived.Test.YtgjeofaedidnpaaGreatDoorR2
import Derived.Laws.OwnMore
import Derived.OneCell
import Derived.Deep.Onto
import Derived.Deep.QuietTactic
import Derived.BigQuiet
import Derived.Deep.Draws
import Derived.RegionTactic
import Derived.Deep.RegionLaw
import Derived.Laws.Rows
import Derived.Shelf.Small.Utf8
import Derived.Shelf.Small.Strs
import Derived.Shelf.Small.Wraps
import Derived.Shelf.Utf8.RuneCount
import Derived.Shelf.Strconv.Itoa0
import Derived.Shelf.Strconv.Itoa1
import Derived.Shelf.LaysM
import Derived.Shelf.Strconv.Itoa2
import Derived.Shelf.Strconv.Itoa3
import Derived.Shelf.Strconv.Itoa4
import Derived.Shelf.Strconv.ParseIntEmpty
import Derived.Shelf.Strconv.Clone
import Derived.Shelf.Strconv.SyntaxError
import Derived.Shelf.LaysC
import Derived.Shelf.Strconv.ToError
import Derived.Shelf.Strconv.Lower
import Derived.Shelf.Strconv.ParseUint10
import Derived.Shelf.Strconv.ParseUint10Empty
import Derived.Shelf.Strconv.ParseUint10Any
import Derived.Shelf.Strconv.ParseInt10
import Derived.Shelf.Strconv.RangeError
import Derived.Shelf.Strconv.ToErrorRange
import Derived.Shelf.Strconv.ParseUintEmpty
import Derived.Shelf.Strconv.ParseUint10b64
import Derived.Shelf.Strconv.ParseUint10b32
import Derived.Shelf.Strconv.ParseUint10b16
import Derived.Shelf.Strconv.ParseUint10b8
import Derived.Shelf.Strconv.ParseUint10At
import Derived.Shelf.Strconv.ParseInt10At64
import Derived.Shelf.Strconv.ParseInt10At32
import Derived.Shelf.Strconv.ParseInt10At16
import Derived.Shelf.Strconv.ParseInt10At8
import Derived.Shelf.Strconv.ParseInt10All
import Derived.Shelf.Strconv.ParseIntPublic10
import Derived.Shelf.Strconv.ErrVarParseInt
import Derived.Shelf.Strings.Search1
import Derived.Shelf.Strings.Search2
import Derived.Shelf.Strings.Search3
import Derived.Shelf.Strings.Cut
import Derived.Shelf.Strings.Count
import Derived.Shelf.Strings.Shaped
import Derived.Shelf.Strings.Prefix
import Derived.Shelf.Strings.Split
import Derived.Shelf.Strings.SplitShaped
import Derived.Shelf.Unicode.Decode
import Derived.Shelf.Strings.Runes
import Derived.Shelf.Strings.RuneCount
import Derived.Shelf.Strings.IndexAny
import Derived.Shelf.Strings.AsciiSet
import Derived.Shelf.Strings.IndexAnyAll
import Derived.Shelf.Strings.Explode
import Derived.Test.YtgjeofaedidnpaaGreatDoorProg
import Derived.IntWalk
import Derived.Lib.AppendIntMem
import Derived.Laws.IdiomStrings
import Derived.Laws.Concat
namespace Go.Proofs.YtgjeofaedidnpaaGreatDoor
open Go.RowKit
def bstr (l : List UInt8) : Value := .string ⟨l.toArray⟩
theorem bstr_of (s : ByteArray) : bstr s.data.toList = .string s := rfl
def cellV (c : CM) : List Value := [.int .i64 c.op, .int .i64 c.a, bstr c.nm]
def flat (cs : List CM) : List Value := cs.flatMap cellV
theorem flat_at {cs : List CM} {i : Nat} (h : i < cs.length) : (flat cs)[i * 3]? = some (.int .i64 cs[i].op) /\ (flat cs)[i * 3 + 1]? = some (.int .i64 cs[i].a) /\ (flat cs)[i * 3 + 2]? = some (bstr cs[i].nm) := by
 induction cs generalizing i with
 | nil => simp at h
 | cons c r ih =>
  have e : flat (c :: r) = .int .i64 c.op :: .int .i64 c.a :: bstr c.nm :: flat r := rfl;rw [e];cases i with
  | zero => exact ⟨rfl, rfl, rfl⟩
  | succ j =>
   have := ih (i := j) (by simpa using h);have h1 : (j + 1) * 3 = j * 3 + 3 := by omega
   rw [h1];exact this
section
variable {w0 wa w w1 w2 : World} {g : Nat} {s : ByteArray} {p p' : Nat} {cs cs' : List CM}
theorem grown_of_below {w w' : World} (h : Below w.heap.size w w') (row : Option Nat) : w.grownBy w' row := ⟨h.os, h.tape, h.output, h.size, fun k hk _ => h.block k hk⟩
theorem own_below {base : Nat} {e : TypeId} {size n : Nat} {v : Value} {xs : List Value} (h : w.ownsRow base e size v n xs) (hb : Below w.heap.size w w1) : w1.ownsRow base e size v n xs :=
 h.kept (grown_of_below hb none) (by cases hv : v.ownBlock with
  | none => exact Or.inl rfl
  | some k => exact Or.inr (by simp))
end
end Go.Proofs.YtgjeofaedidnpaaGreatDoor
namespace Go.Proofs
open Go.Shelf
def Tryz.laysM316_ren : Go.Shelf.Ren := ⟨fun | 316 => 154 | n => n, fun | 9 => 9 | 3 => 3 | 4 => 4 | 37 => 184 | 0 => 0 | 127 => 185 | 5 => 5 | n => n, fun | n => n⟩
theorem Tryz.laysM316 : Go.Proofs.LaysM.n316 Tryz.prog Tryz.laysM316_ren := {
 mixed := by kernel_rfl
 f316 := Tryz.func154.trans (congrArg some (by kernel_rfl))
 t0 := Tryz.underlying0
 a0 := Tryz.isAgg0
 z0 := Tryz.sizeOf0
 v0 := Tryz.zeroValue0
 t3 := Tryz.underlying3
 a3 := Tryz.isAgg3
 z3 := Tryz.sizeOf3
 v3 := Tryz.zeroValue3
 t4 := Tryz.underlying4
 a4 := Tryz.isAgg4
 z4 := Tryz.sizeOf4
 v4 := Tryz.zeroValue4
 t9 := Tryz.underlying9
 a9 := Tryz.isAgg9
 z9 := Tryz.sizeOf9
 v9 := Tryz.zeroValue9
 t37 := Tryz.underlying184
 a37 := Tryz.isAgg184
 z37 := Tryz.sizeOf184
 v37 := Tryz.zeroValue184
 t127 := Tryz.underlying185
 a127 := Tryz.isAgg185
 z127 := Tryz.sizeOf185
 v127 := Tryz.zeroValue185
 t5 := Tryz.underlying5
 a5 := Tryz.isAgg5
 z5 := Tryz.sizeOf5
 v5 := Tryz.zeroValue5
 i0 := by kernel_rfl
 i3 := by kernel_rfl
 i4 := by kernel_rfl
 i5 := by kernel_rfl
 i9 := by kernel_rfl
 i37 := by kernel_rfl
 i127 := by kernel_rfl }
open Go.RowKit in
theorem Tryz.stringslite_Clone (s : ByteArray) (w : World) (hlim : s.size <= 281474976710656) :
 Calls Tryz.prog 154 #[.string s] w fun e w' => e = .returned (.string s) /\ Below w.heap.size w w' := Any.stringslite_Clone Tryz.laysM316 s w hlim
def Tryz.lays101_ren : Go.Shelf.Ren := ⟨fun | 101 => 147 | 208 => 173 | 206 => 185 | n => n, fun | 9 => 9 | 4 => 4 | 3 => 3 | n => n, fun | n => n⟩
theorem Tryz.lays101 : Go.Proofs.Lays.n101 Tryz.prog Tryz.lays101_ren := {
 mixed := by kernel_rfl
 f101 := Tryz.func147.trans (congrArg some (by kernel_rfl))
 f206 := Tryz.func185.trans (congrArg some (by kernel_rfl))
 f208 := Tryz.func173.trans (congrArg some (by kernel_rfl))
 t3 := Tryz.underlying3
 a3 := Tryz.isAgg3
 z3 := Tryz.sizeOf3
 v3 := Tryz.zeroValue3
 t4 := Tryz.underlying4
 a4 := Tryz.isAgg4
 z4 := Tryz.sizeOf4
 v4 := Tryz.zeroValue4
 t9 := Tryz.underlying9
 a9 := Tryz.isAgg9
 z9 := Tryz.sizeOf9
 v9 := Tryz.zeroValue9 }
open Go.RowKit Go.Lib in
theorem Tryz.strings_TrimPrefix (s p : ByteArray) (w : World) :
 Calls Tryz.prog 147 #[.string s, .string p] w fun e w' => e = .returned (.string ⟨(Lib.trimPrefix s.data.toList p.data.toList).toArray⟩) /\ w' = w := Any.strings_TrimPrefix Tryz.lays101 s p w
end Go.Proofs
namespace Go.Proofs.YtgjeofaedidnpaaGreatDoor
open Go.RowKit
theorem wp_region_tail {P : Program} {id : Nat} {Q : Exit -> Act -> World -> Prop} {a : Act} {w : World} {l : List Oper} (n : Nat) (hm : P.follows .mixedOrders = true) (hB : Region.lexTailB .any l.toArray n = true)
 (h : wpStill P l.toArray w.drew (fun a' => wpList P l.toArray Q (l.drop n) a' w.drew) (l.take n) a) : (Code.region id l.toArray true).wp P Q a w := wp_region_still_tail n hm hB h
end Go.Proofs.YtgjeofaedidnpaaGreatDoor
namespace Go.Proofs.YtgjeofaedidnpaaGreatDoor
open Go.RowKit
def tabOps : List (Int × List UInt8 × Int) :=
 [(11, [43], 4), (12, [45], 4), (13, [42], 5), (14, [47], 5), (15, [37], 5), (16, [61], 3), (17, [33, 61], 3), (18, [60], 3), (19, [60, 61], 3), (20, [62], 3), (21, [62, 61], 3), (22, [38], 2), (23, [124], 1)]
def opRow (o : Int × List UInt8 × Int) : List Value := [.int .i64 o.1, .string ⟨o.2.1.toArray⟩, .int .i64 o.2.2]
def opsCells : Array Value := (tabOps.flatMap opRow).toArray
def Ops (w : World) : Prop := w.var? Tryz.prog "quintain/expr.operators" = some opsCells
theorem gOps : Tryz.prog.globalNamed "quintain/expr.operators" = some 1 := by kernel_rfl
theorem Ops.at_ {w : World} (h : Ops w) : ∃ t fr, w.heap[1]? = some (.cells opsCells t fr) := by
 unfold Ops World.var? at h;simp only [gOps, Option.bind_some] at h;split at h
 ·rename_i cs t fr hh
  injection h with h
  subst h;exact ⟨_, _, hh⟩
 ·cases h
theorem Ops.lt {w : World} (h : Ops w) : 1 < w.heap.size := by
 obtain ⟨t, fr, hh⟩ := h.at_;exact lt_of_block hh
theorem Ops.same {w w' : World} (h : Ops w) (hb : w'.heap[1]? = w.heap[1]?) : Ops w' := by
 unfold Ops World.var? at h ⊢;simp only [gOps, Option.bind_some] at h ⊢;rw [hb]; exact h
theorem Ops.below {w w' : World} (h : Ops w) (hb : Below w.heap.size w w') : Ops w' := h.same (hb.block _ h.lt)
def tabAt (k : Nat) : Int × List UInt8 × Int := tabOps.getD k (0, [], 0)
end Go.Proofs.YtgjeofaedidnpaaGreatDoor
namespace Go.Proofs.YtgjeofaedidnpaaGreatDoor
open Go.RowKit
def Laid (w : World) : Prop := Lib.TabIs Tryz.prog w "internal/strconv.uint64pow10" .u64 Lib.pow10Tab
theorem gTab : Tryz.prog.globalNamed "internal/strconv.uint64pow10" = some 4 := by kernel_rfl
theorem var_lt {w : World} {n : String} {g : Nat} {cs : Array Value} (hg : Tryz.prog.globalNamed n = some g) (h : w.var? Tryz.prog n = some cs) : g < w.heap.size := by
 unfold World.var? at h;simp only [hg, Option.bind_some] at h;rcases Nat.lt_or_ge g w.heap.size with h' | h'
 ·exact h'
 ·rw [Array.getElem?_eq_none h'] at h; cases h
theorem Laid.below {w w' : World} (h : Laid w) (hb : Below w.heap.size w w') : Laid w' := var?_below hb gTab (var_lt gTab h) h
end Go.Proofs.YtgjeofaedidnpaaGreatDoor
namespace Go.Proofs.YtgjeofaedidnpaaGreatDoor
open Go.RowKit
def operN (op : Int) : Nat := if 1 <= op /\ op <= 6 then 0 else if 7 <= op /\ op <= 10 then 1 else 2
def formedB (c : CM) : Bool :=
 if c.op = 1 then decide (c.nm = []) && (decide (0 <= c.a) && decide (c.a <= 1099511627776))
 else if c.op = 2 then decide (c.nm = []) && (decide (0 <= c.a) && decide (c.a <= 1048576))
 else if c.op = 5 \/ c.op = 6 then decide (c.a = 0) && nameB c.nm
 else decide (1 <= c.op) && (decide (c.op <= 23) && (decide (c.a = 0) && decide (c.nm = [])))
theorem op_cases (op : Int) : op = 1 \/ op = 2 \/ op = 3 \/ op = 4 \/ op = 5 \/ op = 6 \/ op = 7 \/ op = 8 \/ op = 9 \/ op = 10 \/ (¬ (1 <= op /\ op <= 10)) := by omega
theorem int_ne {a b : Int} (h : a ≠ b) : (a == b) = false := beq_eq_false_iff_ne.2 h
theorem operands_any (op : Int) (w : World) :
 Calls Tryz.prog 202 #[.int .i64 op] w fun e w' => e = .returned (.int .i64 (operN op)) /\ w = w' := by
 rcases op_cases op with h | h | h | h | h | h | h | h | h | h | h
 ·subst h
  go_enter Tryz.func202, Tryz.ntmps202
  go_wp2;go_ret;exact ⟨rfl, rfl⟩
 ·subst h
  go_enter Tryz.func202, Tryz.ntmps202
  go_wp2;go_ret;exact ⟨rfl, rfl⟩
 ·subst h
  go_enter Tryz.func202, Tryz.ntmps202
  go_wp2;go_ret;exact ⟨rfl, rfl⟩
 ·subst h
  go_enter Tryz.func202, Tryz.ntmps202
  go_wp2;go_ret;exact ⟨rfl, rfl⟩
 ·subst h
  go_enter Tryz.func202, Tryz.ntmps202
  go_wp2;go_ret;exact ⟨rfl, rfl⟩
 ·subst h
  go_enter Tryz.func202, Tryz.ntmps202
  go_wp2;go_ret;exact ⟨rfl, rfl⟩
 ·subst h
  go_enter Tryz.func202, Tryz.ntmps202
  go_wp2;go_ret;exact ⟨rfl, rfl⟩
 ·subst h
  go_enter Tryz.func202, Tryz.ntmps202
  go_wp2;go_ret;exact ⟨rfl, rfl⟩
 ·subst h
  go_enter Tryz.func202, Tryz.ntmps202
  go_wp2;go_ret;exact ⟨rfl, rfl⟩
 ·subst h
  go_enter Tryz.func202, Tryz.ntmps202
  go_wp2;go_ret;exact ⟨rfl, rfl⟩
 have hN : operN op = 2 := by unfold operN; rw [if_neg (by omega), if_neg (by omega)]
 rw [hN]; clear hN;have t1 := int_ne (a := op) (b := 1) (by omega);have t2 := int_ne (a := op) (b := 2) (by omega);have t3 := int_ne (a := op) (b := 3) (by omega);have t4 := int_ne (a := op) (b := 4) (by omega);have t5 := int_ne (a := op) (b := 5) (by omega);have t6 := int_ne (a := op) (b := 6) (by omega);have t7 := int_ne (a := op) (b := 7) (by omega);have t8 := int_ne (a := op) (b := 8) (by omega);have t9 := int_ne (a := op) (b := 9) (by omega);have t10 := int_ne (a := op) (b := 10) (by omega);clear h
 go_enter Tryz.func202, Tryz.ntmps202
 go_wp2;go_ret;exact ⟨rfl, rfl⟩
set_option maxHeartbeats 2000000 in
theorem formed_any (c : CM) (w : World) :
 Calls Tryz.prog 203 #[.agg #[.int .i64 c.op, .int .i64 c.a, bstr c.nm]] w fun e w' => e = .returned (.bool (formedB c)) /\ Below w.heap.size w w' := by
 obtain ⟨op, a, nm⟩ := c;obtain ⟨X, hX⟩ : ∃ X : ByteArray, X = ⟨nm.toArray⟩ := ⟨_, rfl⟩
 have hXl : X.data.toList = nm := by rw [hX]
 have hb : bstr nm = .string X := by rw [hX]; rfl
 simp only;rw [hb];clear hb hX;subst hXl;have HBox : ∀ W : World, ∀ o : Obj, Below W.heap.size W (W.alloc o) := fun W o => (Below.refl _ _).alloc (Nat.le_refl _) o
 have HB := Lib.hid HBox; clear HBox;by_cases h1 : op = 1
 ·subst h1;have hF : formedB ⟨1, a, X.data.toList⟩ = (decide (X.data.toList = []) && (decide (0 <= a) && decide (a <= 1099511627776))) := rfl;rw [hF]; clear hF;rw [<- Lib.toList_data];by_cases hn : X.toList = []
  ·have hne : X.toList.isEmpty = true := by rw [hn]; rfl
   rw [decide_eq_true hn];clear hn;by_cases ha : 0 <= a
   ·by_cases hb : a <= 1099511627776
    ·rw [decide_eq_true ha, decide_eq_true hb]
     go_enter Tryz.func203, Tryz.ntmps203
     go_wp2;go_ret;exact ⟨rfl, HB.out _ _⟩
    ·rw [decide_eq_true ha, decide_eq_false hb];have hb' := decide_eq_false hb;clear hb
     go_enter Tryz.func203, Tryz.ntmps203
     go_wp2;go_ret;exact ⟨rfl, HB.out _ _⟩
   ·rw [decide_eq_false ha];have ha' := decide_eq_false ha;clear ha
    go_enter Tryz.func203, Tryz.ntmps203
    go_wp2;go_ret;exact ⟨rfl, HB.out _ _⟩
  ·have hne : X.toList.isEmpty = false := by
    cases h : X.toList with
    | nil => exact absurd h hn
    | cons _ _ => rfl
   rw [decide_eq_false hn]
   go_enter Tryz.func203, Tryz.ntmps203
   go_wp2;go_ret;exact ⟨rfl, HB.out _ _⟩
 ·by_cases h2 : op = 2
  ·subst h2;have hF : formedB ⟨2, a, X.data.toList⟩ = (decide (X.data.toList = []) && (decide (0 <= a) && decide (a <= 1048576))) := rfl;rw [hF]; clear hF;rw [<- Lib.toList_data];by_cases hn : X.toList = []
   ·have hne : X.toList.isEmpty = true := by rw [hn]; rfl
    rw [decide_eq_true hn];clear hn;by_cases ha : 0 <= a
    ·by_cases hb : a <= 1048576
     ·rw [decide_eq_true ha, decide_eq_true hb]
      go_enter Tryz.func203, Tryz.ntmps203
      go_wp2;go_ret;exact ⟨rfl, HB.out _ _⟩
     ·rw [decide_eq_true ha, decide_eq_false hb];have hb' := decide_eq_false hb;clear hb
      go_enter Tryz.func203, Tryz.ntmps203
      go_wp2;go_ret;exact ⟨rfl, HB.out _ _⟩
    ·rw [decide_eq_false ha];have ha' := decide_eq_false ha;clear ha
     go_enter Tryz.func203, Tryz.ntmps203
     go_wp2;go_ret;exact ⟨rfl, HB.out _ _⟩
   ·have hne : X.toList.isEmpty = false := by
     cases h : X.toList with
     | nil => exact absurd h hn
     | cons _ _ => rfl
    rw [decide_eq_false hn]
    go_enter Tryz.func203, Tryz.ntmps203
    go_wp2;go_ret;exact ⟨rfl, HB.out _ _⟩
  ·by_cases h56 : op = 5 \/ op = 6
   ·have hF : formedB ⟨op, a, X.data.toList⟩ = (decide (a = 0) && nameB X.data.toList) := by
     unfold formedB;simp only;rw [if_neg h1, if_neg h2, if_pos h56]
    rw [hF]; clear hF;have HN := Lib.hid (name_any X);by_cases ha : a = 0
    ·subst ha;cases hn : nameB X.data.toList
     all_goals
      have HNN := Lib.hid hn;clear hn;rcases h56 with h | h
     all_goals
      subst h;clear h1 h2
      go_enter Tryz.func203, Tryz.ntmps203
      go_wp2_with fail
      refine (HN.out _).mono ?_;rintro e w1 ⟨rfl, rfl⟩;rw [HNN.out];go_wp2;go_ret;exact ⟨rfl, HB.out _ _⟩
    ·have ha' := int_ne ha;rw [decide_eq_false ha];clear ha;rcases h56 with h | h
     all_goals
      subst h;clear h1 h2
      go_enter Tryz.func203, Tryz.ntmps203
      go_wp2;go_ret;exact ⟨rfl, HB.out _ _⟩
   ·have hF : formedB ⟨op, a, X.data.toList⟩ = (decide (1 <= op) && (decide (op <= 23) && (decide (a = 0) && decide (X.data.toList = [])))) := by
     unfold formedB;simp only;rw [if_neg h1, if_neg h2, if_neg h56]
    rw [hF]; clear hF;rw [<- Lib.toList_data];have t1 := int_ne h1;have t2 := int_ne h2;have t5 := int_ne (a := op) (b := 5) (fun e => h56 (Or.inl e));have t6 := int_ne (a := op) (b := 6) (fun e => h56 (Or.inr e));clear h1 h2 h56;by_cases h1 : 1 <= op
    ·rw [decide_eq_true h1];by_cases h23 : op <= 23
     ·rw [decide_eq_true h23];by_cases ha : a = 0
      ·subst ha;by_cases hn : X.toList = []
       ·have hne : X.toList.isEmpty = true := by rw [hn]; rfl
        rw [decide_eq_true hn];clear hn
        go_enter Tryz.func203, Tryz.ntmps203
        go_wp2;go_ret;exact ⟨rfl, HB.out _ _⟩
       ·have hne : X.toList.isEmpty = false := by
         cases h : X.toList with
         | nil => exact absurd h hn
         | cons _ _ => rfl
        rw [decide_eq_false hn]
        go_enter Tryz.func203, Tryz.ntmps203
        go_wp2;go_ret;exact ⟨rfl, HB.out _ _⟩
      ·have ha' := int_ne ha;rw [decide_eq_false ha];clear ha
       go_enter Tryz.func203, Tryz.ntmps203
       go_wp2;go_ret;exact ⟨rfl, HB.out _ _⟩
     ·have h23' := decide_eq_false h23;rw [h23'];clear h23
      go_enter Tryz.func203, Tryz.ntmps203
      go_wp2;go_ret;exact ⟨rfl, HB.out _ _⟩
    ·have h1' := decide_eq_false h1;rw [h1'];clear h1
     go_enter Tryz.func203, Tryz.ntmps203
     go_wp2;go_ret;exact ⟨rfl, HB.out _ _⟩
end Go.Proofs.YtgjeofaedidnpaaGreatDoor
namespace Go.Proofs.YtgjeofaedidnpaaGreatDoor
open Go.RowKit
theorem sz0 (s : ByteArray) : s.data.toList.length = s.size := (Lib.size_eq s).symm
end Go.Proofs.YtgjeofaedidnpaaGreatDoor
namespace Go.Proofs.YtgjeofaedidnpaaGreatDoor
open Go.RowKit
structure Own (w : World) (cs : List CM) (v : Value) (w' : World) : Prop where
 own : w'.ownsRow w.heap.size 144 3 v cs.length (flat cs)
 below : Below w.heap.size w w'
def ParsePost (l : List UInt8) (w : World) (e : Ending) (w' : World) : Prop :=
 ∃ v, e = .returned (.tuple #[v, .int .i64 (parseP l).2.1, .int .i64 (parseP l).2.2]) /\ Own w (parseP l).1 v w'
end Go.Proofs.YtgjeofaedidnpaaGreatDoor
namespace Go.Proofs.YtgjeofaedidnpaaGreatDoor
open Go.RowKit
def RdC (w : World) (v : Value) (cs : List CM) : Prop :=
 ∃ (A : Option Addr) (c : Nat), v = .slice A cs.length c /\ ∀ i (h : i < cs.length), ∃ b o, A = some ⟨b, o, none⟩ /\
  w.cell? ⟨b, o + i * 3, none⟩ = some (.int .i64 cs[i].op) /\ w.cell? ⟨b, o + i * 3 + 1, none⟩ = some (.int .i64 cs[i].a) /\ w.cell? ⟨b, o + i * 3 + 2, none⟩ = some (bstr cs[i].nm)
theorem cell_lt {w : World} {p : Addr} {u : Value} (h : w.cell? p = some u) : p.block < w.heap.size := World.block_lt_of_cell? w p h
theorem RdC.below {w w' : World} {v : Value} {cs : List CM} (h : RdC w v cs) (hb : Below w.heap.size w w') : RdC w' v cs := by
 obtain ⟨A, c, rfl, hr⟩ := h;refine ⟨A, c, rfl, fun i hi => ?_⟩;obtain ⟨b, o, rfl, h0, h1, h2⟩ := hr i hi;exact ⟨b, o, rfl, (hb.cell (cell_lt h0)).trans h0, (hb.cell (cell_lt h1)).trans h1, (hb.cell (cell_lt h2)).trans h2⟩
def runB : List CM -> Nat -> Option Nat
 | [], v => some v
 | c :: r, v => if formedB c = true /\ operN c.op <= v then runB r (v + 1 - operN c.op) else none
def rightB (cs : List CM) : Bool := decide (cs.length <= 32) && (runB cs 0 == some 1)
theorem operN_le (op : Int) : operN op <= 2 := by unfold operN; split; omega; split <;> omega
theorem run_at {cs : List CM} {k v : Nat} (hk : k < cs.length) : runB (cs.drop k) v = if formedB cs[k] = true /\ operN cs[k].op <= v then runB (cs.drop (k + 1)) (v + 1 - operN cs[k].op) else none := by
 rw [List.drop_eq_getElem_cons hk]; rfl
set_option maxHeartbeats 2000000 in
theorem right_any (v : Value) (cs : List CM) (w : World) (hR : RdC w v cs) (hl : cs.length <= 4611686018427387904) :
 Calls Tryz.prog 181 #[v] w fun e w' => e = .returned (.bool (rightB cs)) /\ Below w.heap.size w w' := by
 obtain ⟨A, c, rfl, hr⟩ := hR;by_cases h32 : 32 < cs.length
 ·have hB : rightB cs = false := by unfold rightB; rw [decide_eq_false (by omega)]; rfl
  rw [hB]; clear hB hr;have h32' : (32 : Int) < cs.length := by omega
  go_enter Tryz.func181, Tryz.ntmps181
  go_wp2;go_ret;exact ⟨rfl, Below.refl _ _⟩
 ·have hB : rightB cs = (runB cs 0 == some 1) := by unfold rightB; rw [decide_eq_true (by omega)]; rfl
  rw [hB]; clear hB;have h32' : decide ((32 : Int) < cs.length) = false := decide_eq_false (by omega);have HR := Lib.hid hr; clear hr;obtain ⟨n, hn⟩ : ∃ n, cs.length = n := ⟨_, rfl⟩
  have HN := Lib.hid hn;rw [hn] at h32' hl h32 ⊢;clear hn
  go_enter Tryz.func181, Tryz.ntmps181
  go_wp2
  go_loopw [2, 3, 12] (fun x2 vv i wr => x2 = .bool false /\ ∃ k vs : Nat, k <= n /\ vs <= k /\ i = .int .i64 k /\ vv = .int .i64 vs /\ Hid (runB (cs.drop k) vs = runB cs 0) /\ Below w.heap.size w wr) (fun _ _ i _ => n - (intOf i).toNat)
  case atStart => exact ⟨rfl, 0, 0, by omega, by omega, rfl, rfl, rfl, Below.refl _ _⟩
  case round =>
   obtain ⟨rfl, k, vs, hk, hvs, rfl, rfl, HB, hb⟩ := hrel;have HBL := Lib.hid hb;by_cases hkn : k < n
   ·obtain ⟨b, o, rfl, d0, d1, d2⟩ := HR.out k (by rw [HN.out]; exact hkn);have hrun := run_at (cs := cs) (k := k) (v := vs) (by rw [HN.out]; exact hkn);rw [HB.out] at hrun;obtain ⟨cc, hcc⟩ : ∃ cc, cs[k]'(by rw [HN.out]; exact hkn) = cc := ⟨_, rfl⟩
    rw [hcc] at d0 d1 d2 hrun;have e0 := (hb.cell (cell_lt d0)).trans d0;have e1 := (hb.cell (cell_lt d1)).trans d1;have e2 := (hb.cell (cell_lt d2)).trans d2;have hon := operN_le cc.op;obtain ⟨X, hX⟩ : ∃ X : ByteArray, bstr cc.nm = .string X := ⟨_, rfl⟩
    have hfm := formed_any cc;rw [hX] at e2 hfm;have HFM := Lib.hid hfm;have HRUN := Lib.hid hrun;clear d0 d1 d2 hcc hrun hb hX hfm;cases hf : formedB cc
    ·have HFF := Lib.hid hf;have hE : runB cs 0 = none := by rw [HRUN.out, hf, if_neg (by simp)]
     have HE := Lib.hid hE;clear hE hf
     go_wp2_with fail
     refine (operands_any _ _).mono ?_;rintro e w1 ⟨rfl, rfl⟩
     go_wp2_with fail
     refine (HFM.out _).mono ?_;rintro e w2 ⟨rfl, hb2⟩;have HB2 := Lib.hid hb2; clear hb2;rw [HFF.out];go_wp2;go_ret;exact ⟨by rw [HE.out]; rfl, (HBL.out.alloc HBL.out.size _).trans (HB2.out.mono (by have := HBL.out.size; simp; omega))⟩
    ·have HFF := Lib.hid hf;by_cases hov : operN cc.op <= vs
     ·have hE : runB (cs.drop (k + 1)) (vs + 1 - operN cc.op) = runB cs 0 := by rw [HRUN.out, hf, if_pos ⟨rfl, hov⟩]
      have HE := Lib.hid hE;clear hE hf;have hov' : decide ((vs : Int) < (operN cc.op : Int)) = false := decide_eq_false (by omega)
      go_wp2_with fail
      refine (operands_any _ _).mono ?_;rintro e w1 ⟨rfl, rfl⟩
      go_wp2_with fail
      refine (HFM.out _).mono ?_;rintro e w2 ⟨rfl, hb2⟩;have HB2 := Lib.hid hb2; clear hb2;rw [HFF.out];go_wp2
      go_roundw
      case rel => exact ⟨rfl, k + 1, vs + 1 - operN cc.op, by omega, by omega, by go_num, by congr 1; omega, HE, (HBL.out.alloc HBL.out.size _).trans (HB2.out.mono (by have := HBL.out.size; simp; omega))⟩
      case measure => simp [intOf]; omega
     ·have hE : runB cs 0 = none := by rw [HRUN.out, hf, if_neg (by simp; omega)]
      have HE := Lib.hid hE;clear hE hf;have hov' : (vs : Int) < (operN cc.op : Int) := by omega
      go_wp2_with fail
      refine (operands_any _ _).mono ?_;rintro e w1 ⟨rfl, rfl⟩
      go_wp2_with fail
      refine (HFM.out _).mono ?_;rintro e w2 ⟨rfl, hb2⟩;have HB2 := Lib.hid hb2; clear hb2;rw [HFF.out];go_wp2;go_ret;exact ⟨by rw [HE.out]; rfl, (HBL.out.alloc HBL.out.size _).trans (HB2.out.mono (by have := HBL.out.size; simp; omega))⟩
   ·have hE : runB cs 0 = some vs := by
     rw [<- HB.out, List.drop_of_length_le (by rw [HN.out]; omega)]; rfl
    have hE2 : (runB cs 0 == some 1) = ((vs : Int) == 1) := by
     rw [hE];by_cases h : vs = 1
     ·subst h; rfl
     ·rw [int_ne (show (vs : Int) ≠ 1 by omega)]; simp [h]
    have HE := Lib.hid hE2;clear hE hE2;go_wp2;go_ret;exact ⟨by rw [HE.out]; rfl, HBL.out⟩
end Go.Proofs.YtgjeofaedidnpaaGreatDoor
namespace Go.Proofs.YtgjeofaedidnpaaGreatDoor
open Go.RowKit
theorem tab_cells (k : Nat) (hk : k < 13) : opsCells[k * 3]? = some (.int .i64 (tabAt k).1) /\ opsCells[k * 3 + 1]? = some (.string ⟨(tabAt k).2.1.toArray⟩) /\ opsCells[k * 3 + 2]? = some (.int .i64 (tabAt k).2.2) := by
 have h : k = 0 \/ k = 1 \/ k = 2 \/ k = 3 \/ k = 4 \/ k = 5 \/ k = 6 \/ k = 7 \/ k = 8 \/ k = 9 \/ k = 10 \/ k = 11 \/ k = 12 := by omega
 rcases h with rfl | rfl | rfl | rfl | rfl | rfl | rfl | rfl | rfl | rfl | rfl | rfl | rfl <;> exact ⟨rfl, rfl, rfl⟩
end Go.Proofs.YtgjeofaedidnpaaGreatDoor
namespace Go.Proofs.YtgjeofaedidnpaaGreatDoor
open Go.RowKit
theorem name_len {l : List UInt8} (h : nameB l = true) : l.length <= 12 := by
 rcases Nat.lt_or_ge 12 l.length with h1 | h1
 ·rw [nameB_long h1] at h; cases h
 ·exact h1
theorem formed_name {c : CM} (h : formedB c = true) : c.nm.length <= 12 := by
 unfold formedB at h;split at h
 ·simp at h; rw [h.1]; simp
 ·split at h
  ·simp at h; rw [h.1]; simp
  ·split at h
   ·simp at h; exact name_len h.2
   ·simp at h; rw [h.2.2.2]; simp
theorem formed_op {c : CM} (h : formedB c = true) : 1 <= c.op /\ c.op <= 23 := by
 unfold formedB at h;split at h
 ·omega
 ·split at h
  ·omega
  ·split at h
   ·omega
   ·simp at h; exact ⟨h.1, h.2.1⟩
end Go.Proofs.YtgjeofaedidnpaaGreatDoor
namespace Go.Proofs.YtgjeofaedidnpaaGreatDoor
open Go.RowKit
theorem own_form {w : World} {base : Nat} {e : TypeId} {size n : Nat} {v : Value} {xs : List Value} (h : w.ownsRow base e size v n xs) : (v = .slice none 0 0 /\ n = 0) \/ ∃ g cap, v = .slice (some ⟨g, 0, none⟩) n cap /\ n <= cap /\ cap <= maxLen := by
 rcases h.2 with ⟨hv, h0⟩ | ⟨g, cap, cur, hv, _, _, h1, h2, _⟩
 ·exact Or.inl ⟨hv, h0⟩
 ·exact Or.inr ⟨g, cap, hv, h1, h2⟩
end Go.Proofs.YtgjeofaedidnpaaGreatDoor
namespace Go.Proofs.YtgjeofaedidnpaaGreatDoor
open Go.RowKit
def RdI (w : World) (v : Value) (cs : List CM) : Prop := (v = .slice none 0 0 /\ cs = []) \/ ∃ ad c, v = .slice (some ad) cs.length c /\ RdC w v cs
theorem RdI.rd {w : World} {v : Value} {cs : List CM} (h : RdI w v cs) : RdC w v cs := by
 rcases h with ⟨rfl, rfl⟩ | ⟨_, _, _, h⟩
 ·exact ⟨_, _, rfl, fun i hi => absurd hi (by simp)⟩
 ·exact h
theorem RdI.below {w w' : World} {v : Value} {cs : List CM} (h : RdI w v cs) (hb : Below w.heap.size w w') : RdI w' v cs := by
 rcases h with h | ⟨ad, c, e, h⟩
 ·exact Or.inl h
 ·exact Or.inr ⟨ad, c, e, h.below hb⟩
theorem add_lit' (b o n : Nat) : (⟨b, o, none⟩ : Addr).add n = ⟨b, o + n, none⟩ := by unfold Addr.add; by_cases h : n = 0 <;> simp [h]
theorem own_slice {w : World} {base : Nat} {e : TypeId} {size n : Nat} {v : Value} {xs : List Value} (h : w.ownsRow base e size v n xs) : ∃ A c, v = .slice A n c := by
 rcases own_form h with ⟨rfl, rfl⟩ | ⟨g, cap, rfl, _⟩
 ·exact ⟨_, _, rfl⟩
 ·exact ⟨_, _, rfl⟩
end Go.Proofs.YtgjeofaedidnpaaGreatDoor
namespace Go.Proofs.YtgjeofaedidnpaaGreatDoor
open Go.RowKit
theorem op_cases5 (op : Int) : op = 1 \/ op = 2 \/ op = 5 \/ op = 6 \/ (op ≠ 1 /\ op ≠ 2 /\ op ≠ 5 /\ op ≠ 6) := by omega
def opsR (c : CM) : Int := if formedB c = true then operN c.op else -1
theorem opsR_no {c : CM} (h : formedB c = false) : opsR c = -1 := by unfold opsR; rw [h]; rfl
theorem opsR_yes {c : CM} (h : formedB c = true) : opsR c = operN c.op := by unfold opsR; rw [if_pos h]
theorem ret_int {k : IntKind} {a b : Int} (h : a = b) : Ending.returned (.int k a) = .returned (.int k b) := by rw [h]
set_option maxRecDepth 100000 in
set_option maxHeartbeats 4000000 in
theorem refOperands_any (c : CM) (w : World) (hl : c.nm.length <= 9223372036854775807) :
 Calls Tryz.prog 138 #[.agg #[.int .i64 c.op, .int .i64 c.a, bstr c.nm]] w fun e w' => e = .returned (.int .i64 (opsR c)) /\ Below w.heap.size w w' := by
 obtain ⟨op, a, nm⟩ := c;obtain ⟨X, hX⟩ : ∃ X : ByteArray, X = ⟨nm.toArray⟩ := ⟨_, rfl⟩
 have hXl : X.data.toList = nm := by rw [hX]
 have hb : bstr nm = .string X := by rw [hX]; rfl
 simp only at hl ⊢;rw [hb];clear hb hX;subst hXl;rw [sz0] at hl;have HB : Hid (∀ W : World, ∀ o : Obj, Below W.heap.size W (W.alloc o)) := fun W o => (Below.refl _ _).alloc (Nat.le_refl _) o
 have HN := Lib.hid (refName_any X);by_cases hx : X.size = 0
 ·have hnil : X.data.toList = [] := List.eq_nil_of_length_eq_zero (by rw [sz0]; exact hx);have hx0 : decide ((0 : Int) < X.size) = false := decide_eq_false (by omega);have hx1 : decide (0 < X.size) = false := decide_eq_false (by omega);have hx2 : ¬ 0 < X.size := by omega
  have HNIL := Lib.hid hnil;clear hx hl hnil;rcases op_cases5 op with rfl | rfl | rfl | rfl | ⟨h1, h2, h5, h6⟩
  ·by_cases ha : a < 0
   ·have HR := Lib.hid (opsR_no (c := ⟨1, a, X.data.toList⟩) (by simp [formedB]; omega))
    go_enter Tryz.func138, Tryz.ntmps138
    go_wp2;go_ret;exact ⟨ret_int HR.out.symm, HB.out _ _⟩
   ·have ha0 := decide_eq_false ha;by_cases hb : 1099511627776 < a
    ·have HR := Lib.hid (opsR_no (c := ⟨1, a, X.data.toList⟩) (by simp [formedB]; omega))
     go_enter Tryz.func138, Tryz.ntmps138
     go_wp2;go_ret;exact ⟨ret_int HR.out.symm, HB.out _ _⟩
    ·have hb0 := decide_eq_false hb;have HR := Lib.hid (opsR_yes (c := ⟨1, a, X.data.toList⟩) (by simp [formedB, HNIL.out]; omega));clear ha hb
     go_enter Tryz.func138, Tryz.ntmps138
     go_wp2;go_ret;exact ⟨ret_int HR.out.symm, HB.out _ _⟩
  ·by_cases ha : a < 0
   ·have HR := Lib.hid (opsR_no (c := ⟨2, a, X.data.toList⟩) (by simp [formedB]; omega))
    go_enter Tryz.func138, Tryz.ntmps138
    go_wp2;go_ret;exact ⟨ret_int HR.out.symm, HB.out _ _⟩
   ·have ha0 := decide_eq_false ha;by_cases hb : 1048576 < a
    ·have HR := Lib.hid (opsR_no (c := ⟨2, a, X.data.toList⟩) (by simp [formedB]; omega))
     go_enter Tryz.func138, Tryz.ntmps138
     go_wp2;go_ret;exact ⟨ret_int HR.out.symm, HB.out _ _⟩
    ·have hb0 := decide_eq_false hb;have HR := Lib.hid (opsR_yes (c := ⟨2, a, X.data.toList⟩) (by simp [formedB, HNIL.out]; omega));clear ha hb
     go_enter Tryz.func138, Tryz.ntmps138
     go_wp2;go_ret;exact ⟨ret_int HR.out.symm, HB.out _ _⟩
  ·have HR := Lib.hid (opsR_no (c := ⟨5, a, X.data.toList⟩) (by simp [formedB, HNIL.out, nameB]))
   go_enter Tryz.func138, Tryz.ntmps138
   go_wp2;go_ret;exact ⟨ret_int HR.out.symm, HB.out _ _⟩
  ·have HR := Lib.hid (opsR_no (c := ⟨6, a, X.data.toList⟩) (by simp [formedB, HNIL.out, nameB]))
   go_enter Tryz.func138, Tryz.ntmps138
   go_wp2;go_ret;exact ⟨ret_int HR.out.symm, HB.out _ _⟩
  ·have n1 := int_ne h1;have n2 := int_ne h2;have n5 := int_ne h5;have n6 := int_ne h6;have hF : formedB ⟨op, a, X.data.toList⟩ = (decide (1 <= op) && (decide (op <= 23) && decide (a = 0))) := by simp [formedB, h1, h2, h5, h6, HNIL.out]
   have HF := Lib.hid hF;clear hF;by_cases ha : a = 0
   ·subst ha;by_cases hlo : op < 1
    ·have HR := Lib.hid (opsR_no (c := ⟨op, 0, X.data.toList⟩) (by rw [HF.out, decide_eq_false (by omega)]; rfl))
     go_enter Tryz.func138, Tryz.ntmps138
     go_wp2;go_ret;exact ⟨ret_int HR.out.symm, HB.out _ _⟩
    ·have hlo0 := decide_eq_false hlo;by_cases hhi : 23 < op
     ·have HR := Lib.hid (opsR_no (c := ⟨op, 0, X.data.toList⟩) (by rw [HF.out, decide_eq_false (show ¬ op <= 23 by omega)]; simp))
      go_enter Tryz.func138, Tryz.ntmps138
      go_wp2;go_ret;exact ⟨ret_int HR.out.symm, HB.out _ _⟩
     ·have hhi0 := decide_eq_false hhi;have HR := Lib.hid (opsR_yes (c := ⟨op, 0, X.data.toList⟩) (by rw [HF.out, decide_eq_true (show 1 <= op by omega), decide_eq_true (show op <= 23 by omega)]; rfl));by_cases h6' : op <= 6
      ·have HR2 : Hid (opsR ⟨op, 0, X.data.toList⟩ = 0) := by rw [HR.out]; unfold operN; rw [if_pos (by simp only; omega)]; exact rfl
       clear hlo hhi h1 h2 h5 h6
       go_enter Tryz.func138, Tryz.ntmps138
       go_wp2;go_ret;exact ⟨ret_int HR2.out.symm, HB.out _ _⟩
      ·have h6d := decide_eq_false h6';by_cases h10 : op <= 10
       ·have HR2 : Hid (opsR ⟨op, 0, X.data.toList⟩ = 1) := by rw [HR.out]; unfold operN; rw [if_neg (by simp only; omega), if_pos (by simp only; omega)]; exact rfl
        clear hlo hhi h6' h1 h2 h5 h6
        go_enter Tryz.func138, Tryz.ntmps138
        go_wp2;go_ret;exact ⟨ret_int HR2.out.symm, HB.out _ _⟩
       ·have h10d := decide_eq_false h10;have HR2 : Hid (opsR ⟨op, 0, X.data.toList⟩ = 2) := by rw [HR.out]; unfold operN; rw [if_neg (by simp only; omega), if_neg (by simp only; omega)]; exact rfl
        clear hlo hhi h6' h10 h1 h2 h5 h6
        go_enter Tryz.func138, Tryz.ntmps138
        go_wp2;go_ret;exact ⟨ret_int HR2.out.symm, HB.out _ _⟩
   ·have ha0 : (a != 0) = true := bne_iff_ne.2 ha;have HR := Lib.hid (opsR_no (c := ⟨op, a, X.data.toList⟩) (by rw [HF.out, decide_eq_false ha]; simp));clear ha
    go_enter Tryz.func138, Tryz.ntmps138
    go_wp2;go_ret;exact ⟨ret_int HR.out.symm, HB.out _ _⟩
 ·have hx0 : (0 : Int) < X.size := by omega
  have hx1 : 0 < X.size := by omega
  have hne : X.data.toList ≠ [] := fun e => hx (by rw [<- sz0, e]; rfl)
  have HNE := Lib.hid hne;clear hx;rcases op_cases5 op with rfl | rfl | rfl | rfl | ⟨h1, h2, h5, h6⟩
  ·have HR := Lib.hid (opsR_no (c := ⟨1, a, X.data.toList⟩) (by simp [formedB, hne]));clear hne
   go_enter Tryz.func138, Tryz.ntmps138
   go_wp2;go_ret;exact ⟨ret_int HR.out.symm, HB.out _ _⟩
  ·have HR := Lib.hid (opsR_no (c := ⟨2, a, X.data.toList⟩) (by simp [formedB, hne]));clear hne
   go_enter Tryz.func138, Tryz.ntmps138
   go_wp2;go_ret;exact ⟨ret_int HR.out.symm, HB.out _ _⟩
  ·clear hne;cases hn : nameB X.data.toList
   ·have HNN := Lib.hid hn;have HR := Lib.hid (opsR_no (c := ⟨5, a, X.data.toList⟩) (by simp [formedB, hn]));clear hn
    go_enter Tryz.func138, Tryz.ntmps138
    go_wp2_with fail
    refine (HN.out _).mono ?_;rintro e w1 ⟨rfl, rfl⟩;rw [HNN.out];go_wp2;go_ret;exact ⟨ret_int HR.out.symm, HB.out _ _⟩
   ·have HNN := Lib.hid hn;by_cases ha : a = 0
    ·subst ha;have HR := Lib.hid (opsR_yes (c := ⟨5, 0, X.data.toList⟩) (by simp [formedB, hn]));clear hn
     go_enter Tryz.func138, Tryz.ntmps138
     go_wp2_with fail
     refine (HN.out _).mono ?_;rintro e w1 ⟨rfl, rfl⟩;rw [HNN.out];go_wp2;go_ret;exact ⟨ret_int HR.out.symm, HB.out _ _⟩
    ·have ha0 : (a != 0) = true := bne_iff_ne.2 ha;have HR := Lib.hid (opsR_no (c := ⟨5, a, X.data.toList⟩) (by simp [formedB, ha]));clear hn ha
     go_enter Tryz.func138, Tryz.ntmps138
     go_wp2_with fail
     refine (HN.out _).mono ?_;rintro e w1 ⟨rfl, rfl⟩;rw [HNN.out];go_wp2;go_ret;exact ⟨ret_int HR.out.symm, HB.out _ _⟩
  ·clear hne;cases hn : nameB X.data.toList
   ·have HNN := Lib.hid hn;have HR := Lib.hid (opsR_no (c := ⟨6, a, X.data.toList⟩) (by simp [formedB, hn]));clear hn
    go_enter Tryz.func138, Tryz.ntmps138
    go_wp2_with fail
    refine (HN.out _).mono ?_;rintro e w1 ⟨rfl, rfl⟩;rw [HNN.out];go_wp2;go_ret;exact ⟨ret_int HR.out.symm, HB.out _ _⟩
   ·have HNN := Lib.hid hn;by_cases ha : a = 0
    ·subst ha;have HR := Lib.hid (opsR_yes (c := ⟨6, 0, X.data.toList⟩) (by simp [formedB, hn]));clear hn
     go_enter Tryz.func138, Tryz.ntmps138
     go_wp2_with fail
     refine (HN.out _).mono ?_;rintro e w1 ⟨rfl, rfl⟩;rw [HNN.out];go_wp2;go_ret;exact ⟨ret_int HR.out.symm, HB.out _ _⟩
    ·have ha0 : (a != 0) = true := bne_iff_ne.2 ha;have HR := Lib.hid (opsR_no (c := ⟨6, a, X.data.toList⟩) (by simp [formedB, ha]));clear hn ha
     go_enter Tryz.func138, Tryz.ntmps138
     go_wp2_with fail
     refine (HN.out _).mono ?_;rintro e w1 ⟨rfl, rfl⟩;rw [HNN.out];go_wp2;go_ret;exact ⟨ret_int HR.out.symm, HB.out _ _⟩
  ·have n1 := int_ne h1;have n2 := int_ne h2;have n5 := int_ne h5;have n6 := int_ne h6;have HR := Lib.hid (opsR_no (c := ⟨op, a, X.data.toList⟩) (by simp [formedB, h1, h2, h5, h6, hne]));clear hne h1 h2 h5 h6
   go_enter Tryz.func138, Tryz.ntmps138
   go_wp2;go_ret;exact ⟨ret_int HR.out.symm, HB.out _ _⟩
end Go.Proofs.YtgjeofaedidnpaaGreatDoor
