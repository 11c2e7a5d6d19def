/- Own texts, joined: Ot, A6, Shel2, Vn, Vo, A7, Rd, Ba. -/
import Derived.Test.YtgjeofaedidnpaaGreatDoorR1
import Derived.Test.YtgjeofaedidnpaaGreatDoorR2
import Derived.Test.YtgjeofaedidnpaaGreatDoorR3
import Derived.Test.YtgjeofaedidnpaaGreatDoorR5
import Derived.Test.YtgjeofaedidnpaaGreatDoorR6
import Derived.Test.YtgjeofaedidnpaaGreatDoorR7
import Derived.WalkMore
import Derived.Shelf.Small.Utf8
import Derived.Shelf.Small.Strs
import Derived.Shelf.Small.Wraps
import Derived.Shelf.Utf8.RuneCount
import Derived.Shelf.Strconv.Itoa0
import Derived.Shelf.Strconv.Itoa1
import Derived.Shelf.LaysM
import Derived.Shelf.Strconv.Itoa2
import Derived.Shelf.Strconv.Itoa3
import Derived.Shelf.Strconv.Itoa4
import Derived.Shelf.Strconv.ParseIntEmpty
import Derived.Shelf.Strconv.Clone
import Derived.Shelf.Strconv.SyntaxError
import Derived.Shelf.LaysC
import Derived.Shelf.Strconv.ToError
import Derived.Shelf.Strconv.Lower
import Derived.Shelf.Strconv.ParseUint10
import Derived.Shelf.Strconv.ParseUint10Empty
import Derived.Shelf.Strconv.ParseUint10Any
import Derived.Shelf.Strconv.ParseInt10
import Derived.Shelf.Strconv.RangeError
import Derived.Shelf.Strconv.ToErrorRange
import Derived.Shelf.Strconv.ParseUintEmpty
import Derived.Shelf.Strconv.ParseUint10b64
import Derived.Shelf.Strconv.ParseUint10b32
import Derived.Shelf.Strconv.ParseUint10b16
import Derived.Shelf.Strconv.ParseUint10b8
import Derived.Shelf.Strconv.ParseUint10At
import Derived.Shelf.Strconv.ParseInt10At64
import Derived.Shelf.Strconv.ParseInt10At32
import Derived.Shelf.Strconv.ParseInt10At16
import Derived.Shelf.Strconv.ParseInt10At8
import Derived.Shelf.Strconv.ParseInt10All
import Derived.Shelf.Strconv.ParseIntPublic10
import Derived.Shelf.Strconv.ErrVarParseInt
import Derived.Shelf.Strings.Search1
import Derived.Shelf.Strings.Search2
import Derived.Shelf.Strings.Search3
import Derived.Shelf.Strings.Cut
import Derived.Shelf.Strings.Count
import Derived.Shelf.Strings.Shaped
import Derived.Shelf.Strings.Prefix
import Derived.Shelf.Strings.Split
import Derived.Shelf.Strings.SplitShaped
import Derived.Shelf.Unicode.Decode
import Derived.Shelf.Strings.Runes
import Derived.Shelf.Strings.RuneCount
import Derived.Shelf.Strings.IndexAny
import Derived.Shelf.Strings.AsciiSet
import Derived.Shelf.Strings.IndexAnyAll
import Derived.Shelf.Strings.Explode
import Derived.Test.YtgjeofaedidnpaaGreatDoorProg
namespace Go.Proofs.YtgjeofaedidnpaaGreatDoor
open Go.RowKit
section
variable {w : World} {B : Nat} {e : TypeId} {size n cap g : Nat} {xs : List Value}
theorem own_cells (h : w.ownsRow B e size (.slice (some ⟨g, 0, none⟩) n cap) n xs) : ∃ cur : Array Value, B <= g /\ w.heap[g]? = some (.cells cur e (0, 0)) /\ n <= cap /\ cap <= maxLen /\ cur.size = cap * size /\ cur.toList.take (n * size) = xs := by
 obtain ⟨_, ⟨hv, _⟩ | ⟨g', cap', cur, hv, h1, h2, h3, h4, h5, h6⟩⟩ := h
 ·cases hv
 ·simp only [Value.slice.injEq, Option.some.injEq, Addr.mk.injEq, and_true, true_and] at hv;obtain ⟨rfl, rfl⟩ := hv;exact ⟨cur, h1, h2, h3, h4, h5, h6⟩
end
end Go.Proofs.YtgjeofaedidnpaaGreatDoor
namespace Go.Proofs.YtgjeofaedidnpaaGreatDoor
open Go.RowKit
theorem infoStrS : (Tryz.prog.info? 9).map (fun i => (i.zero, i.size, i.bytes)) = some (some (.string ByteArray.empty), 1, 16) := by kernel_rfl
theorem info_of {e : TypeId} {z : Value} {s b : Nat} (h : (Tryz.prog.info? e).map (fun i => (i.zero, i.size, i.bytes)) = some (some z, s, b)) : ∃ i, Tryz.prog.info? e = some i /\ i.zero = some z /\ i.size = s /\ i.bytes = b := by
 match hh : Tryz.prog.info? e, h with
 | some i, h => simp only [Option.map_some, Option.some.injEq, Prod.mk.injEq] at h; exact ⟨i, rfl, h.1, h.2.1, h.2.2⟩
end Go.Proofs.YtgjeofaedidnpaaGreatDoor
namespace Go.Proofs
open Go.Shelf
def Tryz.lays137_ren : Go.Shelf.Ren := ⟨fun | 137 => 79 | 217 => 114 | 266 => 153 | n => n, fun | 9 => 9 | 5 => 5 | 3 => 3 | n => n, fun | n => n⟩
theorem Tryz.lays137 : Go.Proofs.Lays.n137 Tryz.prog Tryz.lays137_ren := {
 mixed := by kernel_rfl
 f137 := Tryz.func79.trans (congrArg some (by kernel_rfl))
 f217 := Tryz.func114.trans (congrArg some (by kernel_rfl))
 f266 := Tryz.func153.trans (congrArg some (by kernel_rfl))
 t3 := Tryz.underlying3
 a3 := Tryz.isAgg3
 z3 := Tryz.sizeOf3
 v3 := Tryz.zeroValue3
 t5 := Tryz.underlying5
 a5 := Tryz.isAgg5
 z5 := Tryz.sizeOf5
 v5 := Tryz.zeroValue5
 t9 := Tryz.underlying9
 a9 := Tryz.isAgg9
 z9 := Tryz.sizeOf9
 v9 := Tryz.zeroValue9 }
open Go.RowKit in
theorem Tryz.strings_IndexByte (s : ByteArray) (c : Int) (w : World) :
 Calls Tryz.prog 79 #[.string s, .int .u8 c] w fun e w' => e = .returned (.int .i64 (Lib.indexByte s.data.toList c.toNat.toUInt8)) /\ w' = w := Any.strings_IndexByte Tryz.lays137 s c w
def Tryz.lays103_ren : Go.Shelf.Ren := ⟨fun | 103 => 133 | 210 => 165 | 206 => 185 | n => n, fun | 9 => 9 | 4 => 4 | 24 => 139 | 3 => 3 | n => n, fun | n => n⟩
theorem Tryz.lays103 : Go.Proofs.Lays.n103 Tryz.prog Tryz.lays103_ren := {
 mixed := by kernel_rfl
 f103 := Tryz.func133.trans (congrArg some (by kernel_rfl))
 f206 := Tryz.func185.trans (congrArg some (by kernel_rfl))
 f210 := Tryz.func165.trans (congrArg some (by kernel_rfl))
 t3 := Tryz.underlying3
 a3 := Tryz.isAgg3
 z3 := Tryz.sizeOf3
 v3 := Tryz.zeroValue3
 t4 := Tryz.underlying4
 a4 := Tryz.isAgg4
 z4 := Tryz.sizeOf4
 v4 := Tryz.zeroValue4
 t9 := Tryz.underlying9
 a9 := Tryz.isAgg9
 z9 := Tryz.sizeOf9
 v9 := Tryz.zeroValue9
 t24 := Tryz.underlying139
 a24 := Tryz.isAgg139
 z24 := Tryz.sizeOf139
 v24 := Tryz.zeroValue139 }
open Go.RowKit in
theorem Tryz.strings_CutPrefix (s p : ByteArray) (w : World) :
 Calls Tryz.prog 133 #[.string s, .string p] w fun e w' => e = .returned (.tuple #[.string ⟨(Lib.trimPrefix s.data.toList p.data.toList).toArray⟩, .bool (Lib.hasPrefix s.data.toList p.data.toList)]) /\ w' = w := Any.strings_CutPrefix Tryz.lays103 s p w
def Tryz.lays102_ren : Go.Shelf.Ren := ⟨fun | 102 => 81 | 209 => 117 | 207 => 155 | n => n, fun | 9 => 9 | 4 => 4 | 3 => 3 | n => n, fun | n => n⟩
theorem Tryz.lays102 : Go.Proofs.Lays.n102 Tryz.prog Tryz.lays102_ren := {
 mixed := by kernel_rfl
 f102 := Tryz.func81.trans (congrArg some (by kernel_rfl))
 f207 := Tryz.func155.trans (congrArg some (by kernel_rfl))
 f209 := Tryz.func117.trans (congrArg some (by kernel_rfl))
 t3 := Tryz.underlying3
 a3 := Tryz.isAgg3
 z3 := Tryz.sizeOf3
 v3 := Tryz.zeroValue3
 t4 := Tryz.underlying4
 a4 := Tryz.isAgg4
 z4 := Tryz.sizeOf4
 v4 := Tryz.zeroValue4
 t9 := Tryz.underlying9
 a9 := Tryz.isAgg9
 z9 := Tryz.sizeOf9
 v9 := Tryz.zeroValue9 }
open Go.RowKit Go.Lib in
theorem Tryz.strings_TrimSuffix (s p : ByteArray) (w : World) (hs : s.size <= 9223372036854775807) :
 Calls Tryz.prog 81 #[.string s, .string p] w fun e w' => e = .returned (.string ⟨(Lib.trimSuffix s.data.toList p.data.toList).toArray⟩) /\ w' = w := Any.strings_TrimSuffix Tryz.lays102 s p w hs
end Go.Proofs
namespace Go.Proofs.YtgjeofaedidnpaaGreatDoor
open Go.RowKit
theorem rIn_any (n : Int) (w : World) :
 Calls Tryz.prog 97 #[.int .i64 n] w fun e w' => e = .returned (.bool (inB n)) /\ w = w' := by
 by_cases h1 : -1048576 <= n
 ·by_cases h2 : n <= 1048576
  ·have hL : inB n = true := decide_eq_true ⟨h1, h2⟩;rw [hL]; clear hL
   go_enter Tryz.func97, Tryz.ntmps97
   go_wp2;go_ret;exact ⟨rfl, rfl⟩
  ·have hL : inB n = false := decide_eq_false (fun h => h2 h.2);rw [hL]; clear hL
   go_enter Tryz.func97, Tryz.ntmps97
   go_wp2;go_ret;exact ⟨rfl, rfl⟩
 ·have hL : inB n = false := decide_eq_false (fun h => h1 h.1);rw [hL]; clear hL
  go_enter Tryz.func97, Tryz.ntmps97
  go_wp2;go_ret;exact ⟨rfl, rfl⟩
end Go.Proofs.YtgjeofaedidnpaaGreatDoor
namespace Go.Proofs.YtgjeofaedidnpaaGreatDoor
open Go.RowKit
theorem rRight_any (v : VA) (w : World) :
 Calls Tryz.prog 57 #[.agg #[.int .i64 v.kd, .int .i64 v.a, .int .i64 v.b]] w fun e w' => e = .returned (.bool (rightV v)) /\ Below w.heap.size w w' := by
 obtain ⟨k, a, b⟩ := v;have HB : Hid (∀ W : World, ∀ o : Obj, Below W.heap.size W (W.alloc o)) := fun W o => (Below.refl _ _).alloc (Nat.le_refl _) o
 show Calls _ _ #[.agg #[.int .i64 k, .int .i64 a, .int .i64 b]] _ _;by_cases h1 : k = 1
 ·subst h1;have e : rightV ⟨1, a, b⟩ = decide (b = 0) := rfl;rw [e];by_cases hb : b = 0
  ·rw [decide_eq_true hb]; subst hb
   go_enter Tryz.func57, Tryz.ntmps57
   go_wp2;go_ret;exact ⟨rfl, HB.out _ _⟩
  ·rw [decide_eq_false hb]; have tb := int_ne hb
   go_enter Tryz.func57, Tryz.ntmps57
   go_wp2;go_ret;exact ⟨rfl, HB.out _ _⟩
 ·have t1 := int_ne h1;by_cases h2 : k = 2
  ·subst h2;have e : rightV ⟨2, a, b⟩ = (decide (b = 0) && (decide (a = 0) || decide (a = 1))) := rfl;rw [e];clear e h1;by_cases hb : b = 0
   ·rw [decide_eq_true hb]; subst hb;by_cases h0 : a = 0
    ·subst h0
     go_enter Tryz.func57, Tryz.ntmps57
     go_wp2;go_ret;exact ⟨rfl, HB.out _ _⟩
    ·rw [decide_eq_false h0]; have ta := int_ne h0;by_cases h1 : a = 1
     ·subst h1
      go_enter Tryz.func57, Tryz.ntmps57
      go_wp2;go_ret;exact ⟨rfl, HB.out _ _⟩
     ·rw [decide_eq_false h1]; have ta1 := int_ne h1
      go_enter Tryz.func57, Tryz.ntmps57
      go_wp2;go_ret;exact ⟨rfl, HB.out _ _⟩
   ·rw [decide_eq_false hb]; have tb := int_ne hb
    go_enter Tryz.func57, Tryz.ntmps57
    go_wp2;go_ret;exact ⟨rfl, HB.out _ _⟩
  ·have t2 := int_ne h2;by_cases h3 : k = 3
   ·subst h3;have e : rightV ⟨3, a, b⟩ = (inB a && inB b) := rfl;rw [e];clear e h1 h2;have HA := Lib.hid (fun W => rIn_any a W);have HC := Lib.hid (fun W => rIn_any b W);cases ha : inB a with
    | false =>
     rw [ha] at HA;clear ha
     go_enter Tryz.func57, Tryz.ntmps57
     go_wp2_with fail
     refine (HA.out _).mono ?_;rintro e w' ⟨rfl, rfl⟩;go_wp2;go_ret;exact ⟨rfl, HB.out _ _⟩
    | true =>
     rw [ha] at HA;generalize inB b = bb at *
     clear ha
     go_enter Tryz.func57, Tryz.ntmps57
     go_wp2_with fail
     refine (HA.out _).mono ?_;rintro e w' ⟨rfl, rfl⟩
     go_wp2_with fail
     refine (HC.out _).mono ?_;rintro e w' ⟨rfl, rfl⟩;go_wp2;go_ret;exact ⟨by simp, HB.out _ _⟩
   ·have t3 := int_ne h3;have e : rightV ⟨k, a, b⟩ = false := by
     show (if k = 1 then _ else if k = 2 then _ else if k = 3 then _ else false) = false;rw [if_neg h1, if_neg h2, if_neg h3]
    rw [e];clear e h1 h2 h3
    go_enter Tryz.func57, Tryz.ntmps57
    go_wp2;go_ret;exact ⟨rfl, HB.out _ _⟩
end Go.Proofs.YtgjeofaedidnpaaGreatDoor
namespace Go.Proofs.YtgjeofaedidnpaaGreatDoor
open Go.RowKit
def ML (w : World) : Prop := ∃ m, w.cell? ⟨0, 0, none⟩ = some (.int .i64 m)
theorem ML.below {w w' : World} (h : ML w) (hb : Below w.heap.size w w') : ML w' := by
 obtain ⟨m, h⟩ := h;exact ⟨m, (hb.cell (cell_lt h)).trans h⟩
theorem below_drewN {B : Nat} {w w' : World} (h : Below B w w') (n : Nat) : Below B w (w'.drewN n) := ⟨h.os, h.tape, h.output, h.size, h.block⟩
structure ActO (B : Nat) (w : World) (p : AP) : Prop where
 own : w.ownsRow B 144 3 p.2 p.1.ex.length (flat p.1.ex)
 len : p.1.ex.length * 32 <= 140737488355328
 names : Names p.1.ex
 name : p.1.nm.length <= 140737488355328
theorem own_lower {w : World} {B B' : Nat} {e : TypeId} {size n : Nat} {v : Value} {xs : List Value} (h : w.ownsRow B e size v n xs) (hb : B' <= B) : w.ownsRow B' e size v n xs := by
 obtain ⟨h1, h2⟩ := h;refine ⟨h1, ?_⟩;rcases h2 with h2 | ⟨g, cap, cur, h3, h4, h5⟩
 ·exact Or.inl h2
 ·exact Or.inr ⟨g, cap, cur, h3, by omega, h5⟩
end Go.Proofs.YtgjeofaedidnpaaGreatDoor
namespace Go.Proofs.YtgjeofaedidnpaaGreatDoor.Pl
open Go.Lib
def inB (n : Int) : Bool := decide (-1048576 <= n /\ n <= 1048576)
def wloop (n : Nat) : List UInt8 -> Nat × Nat
 | [] => (n, 0)
 | c :: r => if isD c = true /\ n <= 1048576 then ((wloop (10 * n + digv c) r).1, (wloop (10 * n + digv c) r).2 + 1) else (n, 0)
def wholeL (l : List UInt8) : Int × Nat :=
 if l.head? = some 45 then
  if (wloop 0 l.tail).2 = 0 \/ l.tail.head? = some 48 then (0, 0) else (-((wloop 0 l.tail).1 : Int), (wloop 0 l.tail).2 + 1)
 else if (wloop 0 l).2 = 0 \/ (l.head? = some 48 /\ 1 < (wloop 0 l).2) then (0, 0) else ((wloop 0 l).1, (wloop 0 l).2)
def finL (a : Int) (t : List UInt8) : Option (Int × Int) :=
 if (wholeL t).2 = 0 \/ t.drop (wholeL t).2 ≠ [105] \/ inB a = false \/ inB (wholeL t).1 = false then none else some (a, (wholeL t).1)
def refT (a : Int) : List UInt8 -> Option (Int × Int)
 | [] => none
 | c :: t => if c = 43 then (if t.head? = some 45 then none else finL a t) else if c = 45 then finL a (c :: t) else none
def refL (l : List UInt8) : Option (Int × Int) :=
 if (wholeL l).2 = 0 \/ (wholeL l).2 = l.length then none else refT (wholeL l).1 (l.drop (wholeL l).2)
end Go.Proofs.YtgjeofaedidnpaaGreatDoor.Pl
namespace Go.Proofs.YtgjeofaedidnpaaGreatDoor.Ch
structure VM where
 nm : List UInt8
 kd : Int
 lo : Int
 hi : Int
 ik : Int
 ia : Int
 ib : Int
structure SC where
 nm : List UInt8
 kd : Int
 dp : Int
 ini : List UInt8
 en : List AM
 ex : List AM
structure TC where
 fr : Int
 ev : List UInt8
 gd : List CM
 «to» : List UInt8
 ac : List AM
structure CH where
 nm : List UInt8
 es : List (List UInt8)
 vs : List VM
 ss : List SC
 ts : List TC
def noCH : CH := ⟨[], [], [], [], []⟩
def wChart : List UInt8 := [99, 104, 97, 114, 116]
def wEvent : List UInt8 := [101, 118, 101, 110, 116]
def wInt : List UInt8 := [105, 110, 116]
def wBool : List UInt8 := [98, 111, 111, 108]
def wPoint : List UInt8 := [112, 111, 105, 110, 116]
def wBasic : List UInt8 := [98, 97, 115, 105, 99]
def wBoth : List UInt8 := [98, 111, 116, 104]
def wFinal : List UInt8 := [102, 105, 110, 97, 108]
def wOne : List UInt8 := [111, 110, 101]
def wShallow : List UInt8 := [115, 104, 97, 108, 108, 111, 119]
def wDeep : List UInt8 := [100, 101, 101, 112]
def wEntry : List UInt8 := [101, 110, 116, 114, 121]
def wExit : List UInt8 := [101, 120, 105, 116]
def wOn : List UInt8 := [111, 110]
def wDash : List UInt8 := [45]
def roomC (ss : List SC) : Int := match ss.getLast? with
 | none => 0
 | some s => s.dp + 1
def headB (c : CH) (d n : Nat) (r : List (List UInt8)) : Bool := !c.nm.isEmpty && c.ss.isEmpty && decide (d = 0) && decide (r.length = n)
def partB (c : CH) (d n : Nat) (r : List (List UInt8)) : Bool := !c.ss.isEmpty && decide ((d : Int) = roomC c.ss) && decide (r.length = n)
def wd (r : List (List UInt8)) (i : Nat) : List UInt8 := r.getD i []
theorem wd_at {r : List (List UInt8)} {i : Nat} (h : i < r.length) : wd r i = r[i] := by simp [wd, h]
def nameS (c : CH) (d : Nat) (r : List (List UInt8)) : Option CH :=
 if (c.nm.isEmpty && decide (d = 0) && decide (r.length = 1) && nameB (wd r 0)) = true then some { c with nm := wd r 0 } else none
def eventS (c : CH) (d : Nat) (r : List (List UInt8)) : Option CH :=
 if (headB c d 1 r && nameB (wd r 0)) = true then some { c with es := c.es ++ [wd r 0] } else none
def varS (c : CH) (v : VM) : Option CH := if nameB v.nm = true then some { c with vs := c.vs ++ [v] } else none
def boundS (c : CH) (r : List (List UInt8)) (ik ia ib : Int) : Option CH :=
 if (numP (wd r 1)).2 = 0 /\ (numP (wd r 2)).2 = 0 then varS c ⟨wd r 0, ik, (numP (wd r 1)).1, (numP (wd r 2)).1, ik, ia, ib⟩ else none
def intS (c : CH) (d : Nat) (r : List (List UInt8)) : Option CH :=
 if headB c d 4 r = true /\ (numP (wd r 3)).2 = 0 then boundS c r 1 (numP (wd r 3)).1 0 else none
def boolS (c : CH) (d : Nat) (r : List (List UInt8)) : Option CH :=
 if headB c d 2 r = true /\ (wd r 1 = wTrue \/ wd r 1 = wFalse) then varS c ⟨wd r 0, 2, 0, 1, 2, if wd r 1 = wTrue then 1 else 0, 0⟩ else none
def pointS (c : CH) (d : Nat) (r : List (List UInt8)) : Option CH :=
 if headB c d 4 r = true then match Pl.refL (wd r 3) with
  | some (a, b) => boundS c r 3 a b
  | none => none
 else none
def stateB (c : CH) (d n : Nat) (r : List (List UInt8)) : Bool := !c.nm.isEmpty && decide ((d : Int) <= roomC c.ss) && decide (r.length = n) && r.all nameB
def stateS (k : Int) (n : Nat) (c : CH) (d : Nat) (r : List (List UInt8)) : Option CH :=
 if stateB c d n r = true then some { c with ss := c.ss ++ [⟨wd r 0, k, d, if 1 < n then wd r 1 else [], [], []⟩] } else none
def lastS (c : CH) (f : SC -> Option SC) : Option CH := match c.ss.getLast? with
 | none => none
 | some s => match f s with
  | none => none
  | some s' => some { c with ss := c.ss.dropLast ++ [s'] }
def entryS (c : CH) (d : Nat) (r : List (List UInt8)) : Option CH :=
 if partB c d 1 r = true then lastS c fun s => if s.en.length = 0 /\ (parseA (wd r 0)).2 = 0 then some { s with en := (parseA (wd r 0)).1 } else none else none
def exitS (c : CH) (d : Nat) (r : List (List UInt8)) : Option CH :=
 if partB c d 1 r = true then lastS c fun s => if s.ex.length = 0 /\ (parseA (wd r 0)).2 = 0 then some { s with ex := (parseA (wd r 0)).1 } else none else none
def dashed {α : Type} (z : α) (w : List UInt8) (a : α) : α := if w = wDash then z else a
def evOk (w : List UInt8) : Bool := decide (w = wDash) || eventB w
def gdOk (w : List UInt8) : Bool := decide (w = wDash) || decide ((parseP w).2.2 = 0)
def toOk (w : List UInt8) : Bool := decide (w = wDash) || nameB w
def acOk (w : List UInt8) : Bool := decide (w = wDash) || decide ((parseA w).2 = 0)
def onT (n : Int) (r : List (List UInt8)) : TC := ⟨n - 1, dashed [] (wd r 0) (wd r 0), dashed [] (wd r 1) (parseP (wd r 1)).1, dashed [] (wd r 2) (wd r 2), dashed [] (wd r 3) (parseA (wd r 3)).1⟩
def onS (c : CH) (d : Nat) (r : List (List UInt8)) : Option CH :=
 if (partB c d 4 r && evOk (wd r 0) && gdOk (wd r 1) && toOk (wd r 2) && acOk (wd r 3)) = true then some { c with ts := c.ts ++ [onT c.ss.length r] } else none
abbrev StepS := CH -> Nat -> List (List UInt8) -> Option CH
def stepT : List (List UInt8 × StepS) :=
 [(wChart, nameS), (wEvent, eventS), (wInt, intS), (wBool, boolS), (wPoint, pointS), (wBasic, stateS 1 1), (wBoth, stateS 3 1), (wFinal, stateS 4 1), (wOne, stateS 2 2), (wShallow, stateS 5 2), (wDeep, stateS 6 2), (wEntry, entryS), (wExit, exitS), (wOn, onS)]
def findS : List (List UInt8 × StepS) -> List UInt8 -> Option StepS
 | [], _ => none
 | (k, g) :: r, f => if f = k then some g else findS r f
theorem findS_mem : ∀ {l : List (List UInt8 × StepS)} {f : List UInt8} {g : StepS}, findS l f = some g -> (f, g) ∈ l
 | [], _, _, h => by cases h
 | (k, g') :: r, f, g, h => by
  unfold findS at h;by_cases hk : f = k
  ·rw [if_pos hk] at h;injection h with h
   subst h; subst hk;exact List.mem_cons_self
  ·rw [if_neg hk] at h;exact List.mem_cons_of_mem _ (findS_mem h)
def stepF (f : List UInt8) : Option StepS := findS stepT f
def stepC (c : CH) (d : Nat) (ws : List (List UInt8)) : Option CH := match ws with
 | [] => none
 | f :: r => match stepF f with
  | none => none
  | some g => g c d r
def lineC (c : CH) (l : List UInt8) : Option CH := if lineB l = true then stepC c (depthL l) (lineW l) else none
def linesL : List UInt8 -> List (List UInt8)
 | [] => []
 | c :: r => if c = 10 then [] :: linesL r else match linesL r with
  | [] => [[c]]
  | p :: ps => (c :: p) :: ps
def runC : CH -> Nat -> List (List UInt8) -> CH × Nat × Int
 | c, _, [] => (c, 0, 0)
 | c, k, l :: ls => match lineC c l with
  | none => (noCH, k, 1)
  | some c' => runC c' (k + 1) ls
def parseC (s : List UInt8) : CH × Nat × Int :=
 if 6000 < s.length then (noCH, 0, 4) else if s = [] then (noCH, 1, 1) else runC noCH 1 (linesL s)
theorem linesL_ne {s : List UInt8} (h : s ≠ []) : linesL s ≠ [] := by
 cases s with
 | nil => exact absurd rfl h
 | cons c r =>
  unfold linesL;split
  ·simp
  ·split <;> simp
theorem nameB_ne {l : List UInt8} (h : nameB l = true) : l ≠ [] := by
 intro e; subst e; simp [nameB] at h
theorem varS_nm {c c' : CH} {v : VM} (h : varS c v = some c') : c'.nm = c.nm := by
 unfold varS at h; split at h
 ·injection h with h; subst h; rfl
 ·cases h
theorem boundS_nm {c c' : CH} {r : List (List UInt8)} {ik ia ib : Int} (h : boundS c r ik ia ib = some c') : c'.nm = c.nm := by
 unfold boundS at h; split at h
 ·exact varS_nm h
 ·cases h
theorem headB_nm {c : CH} {d n : Nat} {r : List (List UInt8)} (h : headB c d n r = true) : c.nm ≠ [] := by
 unfold headB at h; intro e; rw [e] at h; simp at h
theorem partB_ss {c : CH} {d n : Nat} {r : List (List UInt8)} (h : partB c d n r = true) : c.ss ≠ [] := by
 unfold partB at h; intro e; rw [e] at h; simp at h
theorem lastS_nm {c c' : CH} {f : SC -> Option SC} (h : lastS c f = some c') : c'.nm = c.nm := by
 unfold lastS at h; split at h
 ·cases h
 ·split at h
  ·cases h
  ·injection h with h; subst h; rfl
def Nmd (c : CH) : Prop := c = noCH \/ c.nm ≠ []
theorem Nmd.of_ss {c : CH} (h : Nmd c) (hs : c.ss ≠ []) : c.nm ≠ [] := by
 rcases h with rfl | h
 ·exact absurd rfl hs
 ·exact h
theorem step_nm {f : List UInt8} {g : StepS} (hf : stepF f = some g) {c c' : CH} {d : Nat} {r : List (List UInt8)} (hn : Nmd c) (h : g c d r = some c') : c'.nm ≠ [] := by
 have hst : ∀ k n, stateS k n c d r = some c' -> c'.nm ≠ [] := by
  intro k n h;unfold stateS at h; split at h
  ·rename_i hb
   injection h with h; subst h
   show c.nm ≠ [];intro e; unfold stateB at hb; rw [e] at hb; simp at hb
  ·cases h
 have hm := findS_mem hf;simp only [stepT, List.mem_cons, Prod.mk.injEq, List.not_mem_nil, or_false] at hm;rcases hm with ⟨_, rfl⟩ | ⟨_, rfl⟩ | ⟨_, rfl⟩ | ⟨_, rfl⟩ | ⟨_, rfl⟩ | ⟨_, rfl⟩ | ⟨_, rfl⟩ | ⟨_, rfl⟩ | ⟨_, rfl⟩ | ⟨_, rfl⟩ | ⟨_, rfl⟩ | ⟨_, rfl⟩ | ⟨_, rfl⟩ | ⟨_, rfl⟩
 ·unfold nameS at h; split at h
  ·rename_i hb
   injection h with h; subst h
   simp only [Bool.and_eq_true] at hb;exact nameB_ne hb.2
  ·cases h
 ·unfold eventS at h; split at h
  ·rename_i hb
   injection h with h; subst h
   simp only [Bool.and_eq_true] at hb;exact headB_nm hb.1
  ·cases h
 ·unfold intS at h; split at h
  ·rename_i hb; rw [boundS_nm h]; exact headB_nm hb.1
  ·cases h
 ·unfold boolS at h; split at h
  ·rename_i hb; rw [varS_nm h]; exact headB_nm hb.1
  ·cases h
 ·unfold pointS at h; split at h
  ·rename_i hb
   split at h
   ·rw [boundS_nm h]; exact headB_nm hb
   ·cases h
  ·cases h
 ·exact hst _ _ h
 ·exact hst _ _ h
 ·exact hst _ _ h
 ·exact hst _ _ h
 ·exact hst _ _ h
 ·exact hst _ _ h
 ·unfold entryS at h; split at h
  ·rename_i hb; rw [lastS_nm h]; exact hn.of_ss (partB_ss hb)
  ·cases h
 ·unfold exitS at h; split at h
  ·rename_i hb; rw [lastS_nm h]; exact hn.of_ss (partB_ss hb)
  ·cases h
 ·unfold onS at h; split at h
  ·rename_i hb
   injection h with h; subst h
   simp only [Bool.and_eq_true] at hb;exact hn.of_ss (partB_ss hb.1.1.1.1)
  ·cases h
theorem lineC_nm {c c' : CH} {l : List UInt8} (hn : Nmd c) (h : lineC c l = some c') : c'.nm ≠ [] := by
 unfold lineC at h;split at h
 ·unfold stepC at h;split at h
  ·cases h
  ·split at h
   ·cases h
   ·rename_i hf; exact step_nm hf hn h
 ·cases h
end Go.Proofs.YtgjeofaedidnpaaGreatDoor.Ch
