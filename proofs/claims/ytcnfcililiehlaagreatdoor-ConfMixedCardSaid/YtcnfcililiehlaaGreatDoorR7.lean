/- Own texts, joined: Ot, A6, Shel2, Vn, Vo, A7, Rd, Ba, Ua. -/
import Derived.Test.YtcnfcililiehlaaGreatDoorR1
import Derived.Test.YtcnfcililiehlaaGreatDoorR2
import Derived.Test.YtcnfcililiehlaaGreatDoorR3
import Derived.Test.YtcnfcililiehlaaGreatDoorR4
import Derived.Test.YtcnfcililiehlaaGreatDoorR5
import Derived.Test.YtcnfcililiehlaaGreatDoorR6
import Derived.WalkMore
import Derived.Shelf.Small.Utf8
import Derived.Shelf.Small.Strs
import Derived.Shelf.Small.Wraps
import Derived.Shelf.Utf8.RuneCount
import Derived.Shelf.Strconv.Itoa0
import Derived.Shelf.Strconv.Itoa1
import Derived.Shelf.LaysM
import Derived.Shelf.Strconv.Itoa2
import Derived.Shelf.Strconv.Itoa3
import Derived.Shelf.Strconv.Itoa4
import Derived.Shelf.Strconv.ParseIntEmpty
import Derived.Shelf.Strconv.Clone
import Derived.Shelf.Strconv.SyntaxError
import Derived.Shelf.LaysC
import Derived.Shelf.Strconv.ToError
import Derived.Shelf.Strconv.Lower
import Derived.Shelf.Strconv.ParseUint10
import Derived.Shelf.Strconv.ParseUint10Empty
import Derived.Shelf.Strconv.ParseUint10Any
import Derived.Shelf.Strconv.ParseInt10
import Derived.Shelf.Strconv.RangeError
import Derived.Shelf.Strconv.ToErrorRange
import Derived.Shelf.Strconv.ParseUintEmpty
import Derived.Shelf.Strconv.ParseUint10b64
import Derived.Shelf.Strconv.ParseUint10b32
import Derived.Shelf.Strconv.ParseUint10b16
import Derived.Shelf.Strconv.ParseUint10b8
import Derived.Shelf.Strconv.ParseUint10At
import Derived.Shelf.Strconv.ParseInt10At64
import Derived.Shelf.Strconv.ParseInt10At32
import Derived.Shelf.Strconv.ParseInt10At16
import Derived.Shelf.Strconv.ParseInt10At8
import Derived.Shelf.Strconv.ParseInt10All
import Derived.Shelf.Strconv.ParseIntPublic10
import Derived.Shelf.Strconv.ErrVarParseInt
import Derived.Shelf.Strings.Search1
import Derived.Shelf.Strings.Search2
import Derived.Shelf.Strings.Search3
import Derived.Shelf.Strings.Cut
import Derived.Shelf.Strings.Count
import Derived.Shelf.Strings.Shaped
import Derived.Shelf.Strings.Prefix
import Derived.Shelf.Strings.Split
import Derived.Shelf.Strings.SplitShaped
import Derived.Shelf.Unicode.Decode
import Derived.Shelf.Strings.Runes
import Derived.Shelf.Strings.RuneCount
import Derived.Shelf.Strings.IndexAny
import Derived.Shelf.Strings.AsciiSet
import Derived.Shelf.Strings.IndexAnyAll
import Derived.Shelf.Strings.Explode
import Derived.Shelf.Unicode.DecodeSlow
import Derived.Test.YtcnfcililiehlaaGreatDoorProg
import Derived.ProofKit
namespace Go.Proofs.YtcnfcililiehlaaGreatDoor
open Go.RowKit
section
variable {w : World} {B : Nat} {e : TypeId} {size n cap g : Nat} {xs : List Value}
theorem own_cells (h : w.ownsRow B e size (.slice (some ⟨g, 0, none⟩) n cap) n xs) : ∃ cur : Array Value, B <= g /\ w.heap[g]? = some (.cells cur e (0, 0)) /\ n <= cap /\ cap <= maxLen /\ cur.size = cap * size /\ cur.toList.take (n * size) = xs := by
 obtain ⟨_, ⟨hv, _⟩ | ⟨g', cap', cur, hv, h1, h2, h3, h4, h5, h6⟩⟩ := h
 ·cases hv
 ·simp only [Value.slice.injEq, Option.some.injEq, Addr.mk.injEq, and_true, true_and] at hv;obtain ⟨rfl, rfl⟩ := hv;exact ⟨cur, h1, h2, h3, h4, h5, h6⟩
end
end Go.Proofs.YtcnfcililiehlaaGreatDoor
namespace Go.Proofs.YtcnfcililiehlaaGreatDoor
open Go.RowKit
theorem infoStrS : (Tryz.prog.info? 9).map (fun i => (i.zero, i.size, i.bytes)) = some (some (.string ByteArray.empty), 1, 16) := by kernel_rfl
theorem info_of {e : TypeId} {z : Value} {s b : Nat} (h : (Tryz.prog.info? e).map (fun i => (i.zero, i.size, i.bytes)) = some (some z, s, b)) : ∃ i, Tryz.prog.info? e = some i /\ i.zero = some z /\ i.size = s /\ i.bytes = b := by
 match hh : Tryz.prog.info? e, h with
 | some i, h => simp only [Option.map_some, Option.some.injEq, Prod.mk.injEq] at h; exact ⟨i, rfl, h.1, h.2.1, h.2.2⟩
end Go.Proofs.YtcnfcililiehlaaGreatDoor
namespace Go.Proofs
open Go.Shelf
def Tryz.lays137_ren : Go.Shelf.Ren := ⟨fun | 137 => 84 | 217 => 116 | 266 => 162 | n => n, fun | 9 => 9 | 5 => 5 | 3 => 3 | n => n, fun | n => n⟩
theorem Tryz.lays137 : Go.Proofs.Lays.n137 Tryz.prog Tryz.lays137_ren := {
 mixed := by kernel_rfl
 f137 := Tryz.func84.trans (congrArg some (by kernel_rfl))
 f217 := Tryz.func116.trans (congrArg some (by kernel_rfl))
 f266 := Tryz.func162.trans (congrArg some (by kernel_rfl))
 t3 := Tryz.underlying3
 a3 := Tryz.isAgg3
 z3 := Tryz.sizeOf3
 v3 := Tryz.zeroValue3
 t5 := Tryz.underlying5
 a5 := Tryz.isAgg5
 z5 := Tryz.sizeOf5
 v5 := Tryz.zeroValue5
 t9 := Tryz.underlying9
 a9 := Tryz.isAgg9
 z9 := Tryz.sizeOf9
 v9 := Tryz.zeroValue9 }
open Go.RowKit in
theorem Tryz.strings_IndexByte (s : ByteArray) (c : Int) (w : World) :
 Calls Tryz.prog 84 #[.string s, .int .u8 c] w fun e w' => e = .returned (.int .i64 (Lib.indexByte s.data.toList c.toNat.toUInt8)) /\ w' = w := Any.strings_IndexByte Tryz.lays137 s c w
def Tryz.lays103_ren : Go.Shelf.Ren := ⟨fun | 103 => 199 | 210 => 230 | 206 => 224 | n => n, fun | 9 => 9 | 4 => 4 | 24 => 180 | 3 => 3 | n => n, fun | n => n⟩
theorem Tryz.lays103 : Go.Proofs.Lays.n103 Tryz.prog Tryz.lays103_ren := {
 mixed := by kernel_rfl
 f103 := Tryz.func199.trans (congrArg some (by kernel_rfl))
 f206 := Tryz.func224.trans (congrArg some (by kernel_rfl))
 f210 := Tryz.func230.trans (congrArg some (by kernel_rfl))
 t3 := Tryz.underlying3
 a3 := Tryz.isAgg3
 z3 := Tryz.sizeOf3
 v3 := Tryz.zeroValue3
 t4 := Tryz.underlying4
 a4 := Tryz.isAgg4
 z4 := Tryz.sizeOf4
 v4 := Tryz.zeroValue4
 t9 := Tryz.underlying9
 a9 := Tryz.isAgg9
 z9 := Tryz.sizeOf9
 v9 := Tryz.zeroValue9
 t24 := Tryz.underlying180
 a24 := Tryz.isAgg180
 z24 := Tryz.sizeOf180
 v24 := Tryz.zeroValue180 }
open Go.RowKit in
theorem Tryz.strings_CutPrefix (s p : ByteArray) (w : World) :
 Calls Tryz.prog 199 #[.string s, .string p] w fun e w' => e = .returned (.tuple #[.string ⟨(Lib.trimPrefix s.data.toList p.data.toList).toArray⟩, .bool (Lib.hasPrefix s.data.toList p.data.toList)]) /\ w' = w := Any.strings_CutPrefix Tryz.lays103 s p w
def Tryz.lays102_ren : Go.Shelf.Ren := ⟨fun | 102 => 86 | 209 => 119 | 207 => 164 | n => n, fun | 9 => 9 | 4 => 4 | 3 => 3 | n => n, fun | n => n⟩
theorem Tryz.lays102 : Go.Proofs.Lays.n102 Tryz.prog Tryz.lays102_ren := {
 mixed := by kernel_rfl
 f102 := Tryz.func86.trans (congrArg some (by kernel_rfl))
 f207 := Tryz.func164.trans (congrArg some (by kernel_rfl))
 f209 := Tryz.func119.trans (congrArg some (by kernel_rfl))
 t3 := Tryz.underlying3
 a3 := Tryz.isAgg3
 z3 := Tryz.sizeOf3
 v3 := Tryz.zeroValue3
 t4 := Tryz.underlying4
 a4 := Tryz.isAgg4
 z4 := Tryz.sizeOf4
 v4 := Tryz.zeroValue4
 t9 := Tryz.underlying9
 a9 := Tryz.isAgg9
 z9 := Tryz.sizeOf9
 v9 := Tryz.zeroValue9 }
open Go.RowKit Go.Lib in
theorem Tryz.strings_TrimSuffix (s p : ByteArray) (w : World) (hs : s.size <= 9223372036854775807) :
 Calls Tryz.prog 86 #[.string s, .string p] w fun e w' => e = .returned (.string ⟨(Lib.trimSuffix s.data.toList p.data.toList).toArray⟩) /\ w' = w := Any.strings_TrimSuffix Tryz.lays102 s p w hs
end Go.Proofs
namespace Go.Proofs.YtcnfcililiehlaaGreatDoor
open Go.RowKit
theorem rIn_any (n : Int) (w : World) :
 Calls Tryz.prog 144 #[.int .i64 n] w fun e w' => e = .returned (.bool (inB n)) /\ w = w' := by
 by_cases h1 : -1048576 <= n
 ·by_cases h2 : n <= 1048576
  ·have hL : inB n = true := decide_eq_true ⟨h1, h2⟩;rw [hL]; clear hL
   go_enter Tryz.func144, Tryz.ntmps144
   go_wp2;go_ret;exact ⟨rfl, rfl⟩
  ·have hL : inB n = false := decide_eq_false (fun h => h2 h.2);rw [hL]; clear hL
   go_enter Tryz.func144, Tryz.ntmps144
   go_wp2;go_ret;exact ⟨rfl, rfl⟩
 ·have hL : inB n = false := decide_eq_false (fun h => h1 h.1);rw [hL]; clear hL
  go_enter Tryz.func144, Tryz.ntmps144
  go_wp2;go_ret;exact ⟨rfl, rfl⟩
end Go.Proofs.YtcnfcililiehlaaGreatDoor
namespace Go.Proofs.YtcnfcililiehlaaGreatDoor
open Go.RowKit
theorem rRight_any (v : VA) (w : World) :
 Calls Tryz.prog 93 #[.agg #[.int .i64 v.kd, .int .i64 v.a, .int .i64 v.b]] w fun e w' => e = .returned (.bool (rightV v)) /\ Below w.heap.size w w' := by
 obtain ⟨k, a, b⟩ := v;have HB : Hid (∀ W : World, ∀ o : Obj, Below W.heap.size W (W.alloc o)) := fun W o => (Below.refl _ _).alloc (Nat.le_refl _) o
 show Calls _ _ #[.agg #[.int .i64 k, .int .i64 a, .int .i64 b]] _ _;by_cases h1 : k = 1
 ·subst h1;have e : rightV ⟨1, a, b⟩ = decide (b = 0) := rfl;rw [e];by_cases hb : b = 0
  ·rw [decide_eq_true hb]; subst hb
   go_enter Tryz.func93, Tryz.ntmps93
   go_wp2;go_ret;exact ⟨rfl, HB.out _ _⟩
  ·rw [decide_eq_false hb]; have tb := int_ne hb
   go_enter Tryz.func93, Tryz.ntmps93
   go_wp2;go_ret;exact ⟨rfl, HB.out _ _⟩
 ·have t1 := int_ne h1;by_cases h2 : k = 2
  ·subst h2;have e : rightV ⟨2, a, b⟩ = (decide (b = 0) && (decide (a = 0) || decide (a = 1))) := rfl;rw [e];clear e h1;by_cases hb : b = 0
   ·rw [decide_eq_true hb]; subst hb;by_cases h0 : a = 0
    ·subst h0
     go_enter Tryz.func93, Tryz.ntmps93
     go_wp2;go_ret;exact ⟨rfl, HB.out _ _⟩
    ·rw [decide_eq_false h0]; have ta := int_ne h0;by_cases h1 : a = 1
     ·subst h1
      go_enter Tryz.func93, Tryz.ntmps93
      go_wp2;go_ret;exact ⟨rfl, HB.out _ _⟩
     ·rw [decide_eq_false h1]; have ta1 := int_ne h1
      go_enter Tryz.func93, Tryz.ntmps93
      go_wp2;go_ret;exact ⟨rfl, HB.out _ _⟩
   ·rw [decide_eq_false hb]; have tb := int_ne hb
    go_enter Tryz.func93, Tryz.ntmps93
    go_wp2;go_ret;exact ⟨rfl, HB.out _ _⟩
  ·have t2 := int_ne h2;by_cases h3 : k = 3
   ·subst h3;have e : rightV ⟨3, a, b⟩ = (inB a && inB b) := rfl;rw [e];clear e h1 h2;have HA := Lib.hid (fun W => rIn_any a W);have HC := Lib.hid (fun W => rIn_any b W);cases ha : inB a with
    | false =>
     rw [ha] at HA;clear ha
     go_enter Tryz.func93, Tryz.ntmps93
     go_wp2_with fail
     refine (HA.out _).mono ?_;rintro e w' ⟨rfl, rfl⟩;go_wp2;go_ret;exact ⟨rfl, HB.out _ _⟩
    | true =>
     rw [ha] at HA;generalize inB b = bb at *
     clear ha
     go_enter Tryz.func93, Tryz.ntmps93
     go_wp2_with fail
     refine (HA.out _).mono ?_;rintro e w' ⟨rfl, rfl⟩
     go_wp2_with fail
     refine (HC.out _).mono ?_;rintro e w' ⟨rfl, rfl⟩;go_wp2;go_ret;exact ⟨by simp, HB.out _ _⟩
   ·have t3 := int_ne h3;have e : rightV ⟨k, a, b⟩ = false := by
     show (if k = 1 then _ else if k = 2 then _ else if k = 3 then _ else false) = false;rw [if_neg h1, if_neg h2, if_neg h3]
    rw [e];clear e h1 h2 h3
    go_enter Tryz.func93, Tryz.ntmps93
    go_wp2;go_ret;exact ⟨rfl, HB.out _ _⟩
end Go.Proofs.YtcnfcililiehlaaGreatDoor
namespace Go.Proofs.YtcnfcililiehlaaGreatDoor
open Go.RowKit
def ML (w : World) : Prop := ∃ m, w.cell? ⟨0, 0, none⟩ = some (.int .i64 m)
theorem ML.below {w w' : World} (h : ML w) (hb : Below w.heap.size w w') : ML w' := by
 obtain ⟨m, h⟩ := h;exact ⟨m, (hb.cell (cell_lt h)).trans h⟩
theorem below_drewN {B : Nat} {w w' : World} (h : Below B w w') (n : Nat) : Below B w (w'.drewN n) := ⟨h.os, h.tape, h.output, h.size, h.block⟩
structure ActO (B : Nat) (w : World) (p : AP) : Prop where
 own : w.ownsRow B 176 3 p.2 p.1.ex.length (flat p.1.ex)
 len : p.1.ex.length * 32 <= 140737488355328
 names : Names p.1.ex
 name : p.1.nm.length <= 140737488355328
theorem own_lower {w : World} {B B' : Nat} {e : TypeId} {size n : Nat} {v : Value} {xs : List Value} (h : w.ownsRow B e size v n xs) (hb : B' <= B) : w.ownsRow B' e size v n xs := by
 obtain ⟨h1, h2⟩ := h;refine ⟨h1, ?_⟩;rcases h2 with h2 | ⟨g, cap, cur, h3, h4, h5⟩
 ·exact Or.inl h2
 ·exact Or.inr ⟨g, cap, cur, h3, by omega, h5⟩
end Go.Proofs.YtcnfcililiehlaaGreatDoor
namespace Go.Proofs.YtcnfcililiehlaaGreatDoor.Pl
open Go.Lib
def inB (n : Int) : Bool := decide (-1048576 <= n /\ n <= 1048576)
def wloop (n : Nat) : List UInt8 -> Nat × Nat
 | [] => (n, 0)
 | c :: r => if isD c = true /\ n <= 1048576 then ((wloop (10 * n + digv c) r).1, (wloop (10 * n + digv c) r).2 + 1) else (n, 0)
def wholeL (l : List UInt8) : Int × Nat :=
 if l.head? = some 45 then
  if (wloop 0 l.tail).2 = 0 \/ l.tail.head? = some 48 then (0, 0) else (-((wloop 0 l.tail).1 : Int), (wloop 0 l.tail).2 + 1)
 else if (wloop 0 l).2 = 0 \/ (l.head? = some 48 /\ 1 < (wloop 0 l).2) then (0, 0) else ((wloop 0 l).1, (wloop 0 l).2)
def finL (a : Int) (t : List UInt8) : Option (Int × Int) :=
 if (wholeL t).2 = 0 \/ t.drop (wholeL t).2 ≠ [105] \/ inB a = false \/ inB (wholeL t).1 = false then none else some (a, (wholeL t).1)
def refT (a : Int) : List UInt8 -> Option (Int × Int)
 | [] => none
 | c :: t => if c = 43 then (if t.head? = some 45 then none else finL a t) else if c = 45 then finL a (c :: t) else none
def refL (l : List UInt8) : Option (Int × Int) :=
 if (wholeL l).2 = 0 \/ (wholeL l).2 = l.length then none else refT (wholeL l).1 (l.drop (wholeL l).2)
end Go.Proofs.YtcnfcililiehlaaGreatDoor.Pl
namespace Go.Proofs.YtcnfcililiehlaaGreatDoor.Ch
structure VM where
 nm : List UInt8
 kd : Int
 lo : Int
 hi : Int
 ik : Int
 ia : Int
 ib : Int
structure SC where
 nm : List UInt8
 kd : Int
 dp : Int
 ini : List UInt8
 en : List AM
 ex : List AM
structure TC where
 fr : Int
 ev : List UInt8
 gd : List CM
 «to» : List UInt8
 ac : List AM
structure CH where
 nm : List UInt8
 es : List (List UInt8)
 vs : List VM
 ss : List SC
 ts : List TC
def noCH : CH := ⟨[], [], [], [], []⟩
def wChart : List UInt8 := [99, 104, 97, 114, 116]
def wEvent : List UInt8 := [101, 118, 101, 110, 116]
def wInt : List UInt8 := [105, 110, 116]
def wBool : List UInt8 := [98, 111, 111, 108]
def wPoint : List UInt8 := [112, 111, 105, 110, 116]
def wBasic : List UInt8 := [98, 97, 115, 105, 99]
def wBoth : List UInt8 := [98, 111, 116, 104]
def wFinal : List UInt8 := [102, 105, 110, 97, 108]
def wOne : List UInt8 := [111, 110, 101]
def wShallow : List UInt8 := [115, 104, 97, 108, 108, 111, 119]
def wDeep : List UInt8 := [100, 101, 101, 112]
def wEntry : List UInt8 := [101, 110, 116, 114, 121]
def wExit : List UInt8 := [101, 120, 105, 116]
def wOn : List UInt8 := [111, 110]
def wDash : List UInt8 := [45]
def roomC (ss : List SC) : Int := match ss.getLast? with
 | none => 0
 | some s => s.dp + 1
def headB (c : CH) (d n : Nat) (r : List (List UInt8)) : Bool := !c.nm.isEmpty && c.ss.isEmpty && decide (d = 0) && decide (r.length = n)
def partB (c : CH) (d n : Nat) (r : List (List UInt8)) : Bool := !c.ss.isEmpty && decide ((d : Int) = roomC c.ss) && decide (r.length = n)
def wd (r : List (List UInt8)) (i : Nat) : List UInt8 := r.getD i []
theorem wd_at {r : List (List UInt8)} {i : Nat} (h : i < r.length) : wd r i = r[i] := by simp [wd, h]
def nameS (c : CH) (d : Nat) (r : List (List UInt8)) : Option CH :=
 if (c.nm.isEmpty && decide (d = 0) && decide (r.length = 1) && nameB (wd r 0)) = true then some { c with nm := wd r 0 } else none
def eventS (c : CH) (d : Nat) (r : List (List UInt8)) : Option CH :=
 if (headB c d 1 r && nameB (wd r 0)) = true then some { c with es := c.es ++ [wd r 0] } else none
def varS (c : CH) (v : VM) : Option CH := if nameB v.nm = true then some { c with vs := c.vs ++ [v] } else none
def boundS (c : CH) (r : List (List UInt8)) (ik ia ib : Int) : Option CH :=
 if (numP (wd r 1)).2 = 0 /\ (numP (wd r 2)).2 = 0 then varS c ⟨wd r 0, ik, (numP (wd r 1)).1, (numP (wd r 2)).1, ik, ia, ib⟩ else none
def intS (c : CH) (d : Nat) (r : List (List UInt8)) : Option CH :=
 if headB c d 4 r = true /\ (numP (wd r 3)).2 = 0 then boundS c r 1 (numP (wd r 3)).1 0 else none
def boolS (c : CH) (d : Nat) (r : List (List UInt8)) : Option CH :=
 if headB c d 2 r = true /\ (wd r 1 = wTrue \/ wd r 1 = wFalse) then varS c ⟨wd r 0, 2, 0, 1, 2, if wd r 1 = wTrue then 1 else 0, 0⟩ else none
def pointS (c : CH) (d : Nat) (r : List (List UInt8)) : Option CH :=
 if headB c d 4 r = true then match Pl.refL (wd r 3) with
  | some (a, b) => boundS c r 3 a b
  | none => none
 else none
def stateB (c : CH) (d n : Nat) (r : List (List UInt8)) : Bool := !c.nm.isEmpty && decide ((d : Int) <= roomC c.ss) && decide (r.length = n) && r.all nameB
def stateS (k : Int) (n : Nat) (c : CH) (d : Nat) (r : List (List UInt8)) : Option CH :=
 if stateB c d n r = true then some { c with ss := c.ss ++ [⟨wd r 0, k, d, if 1 < n then wd r 1 else [], [], []⟩] } else none
def lastS (c : CH) (f : SC -> Option SC) : Option CH := match c.ss.getLast? with
 | none => none
 | some s => match f s with
  | none => none
  | some s' => some { c with ss := c.ss.dropLast ++ [s'] }
def entryS (c : CH) (d : Nat) (r : List (List UInt8)) : Option CH :=
 if partB c d 1 r = true then lastS c fun s => if s.en.length = 0 /\ (parseA (wd r 0)).2 = 0 then some { s with en := (parseA (wd r 0)).1 } else none else none
def exitS (c : CH) (d : Nat) (r : List (List UInt8)) : Option CH :=
 if partB c d 1 r = true then lastS c fun s => if s.ex.length = 0 /\ (parseA (wd r 0)).2 = 0 then some { s with ex := (parseA (wd r 0)).1 } else none else none
def dashed {α : Type} (z : α) (w : List UInt8) (a : α) : α := if w = wDash then z else a
def evOk (w : List UInt8) : Bool := decide (w = wDash) || eventB w
def gdOk (w : List UInt8) : Bool := decide (w = wDash) || decide ((parseP w).2.2 = 0)
def toOk (w : List UInt8) : Bool := decide (w = wDash) || nameB w
def acOk (w : List UInt8) : Bool := decide (w = wDash) || decide ((parseA w).2 = 0)
def onT (n : Int) (r : List (List UInt8)) : TC := ⟨n - 1, dashed [] (wd r 0) (wd r 0), dashed [] (wd r 1) (parseP (wd r 1)).1, dashed [] (wd r 2) (wd r 2), dashed [] (wd r 3) (parseA (wd r 3)).1⟩
def onS (c : CH) (d : Nat) (r : List (List UInt8)) : Option CH :=
 if (partB c d 4 r && evOk (wd r 0) && gdOk (wd r 1) && toOk (wd r 2) && acOk (wd r 3)) = true then some { c with ts := c.ts ++ [onT c.ss.length r] } else none
abbrev StepS := CH -> Nat -> List (List UInt8) -> Option CH
def stepT : List (List UInt8 × StepS) :=
 [(wChart, nameS), (wEvent, eventS), (wInt, intS), (wBool, boolS), (wPoint, pointS), (wBasic, stateS 1 1), (wBoth, stateS 3 1), (wFinal, stateS 4 1), (wOne, stateS 2 2), (wShallow, stateS 5 2), (wDeep, stateS 6 2), (wEntry, entryS), (wExit, exitS), (wOn, onS)]
def findS : List (List UInt8 × StepS) -> List UInt8 -> Option StepS
 | [], _ => none
 | (k, g) :: r, f => if f = k then some g else findS r f
theorem findS_mem : ∀ {l : List (List UInt8 × StepS)} {f : List UInt8} {g : StepS}, findS l f = some g -> (f, g) ∈ l
 | [], _, _, h => by cases h
 | (k, g') :: r, f, g, h => by
  unfold findS at h;by_cases hk : f = k
  ·rw [if_pos hk] at h;injection h with h
   subst h; subst hk;exact List.mem_cons_self
  ·rw [if_neg hk] at h;exact List.mem_cons_of_mem _ (findS_mem h)
def stepF (f : List UInt8) : Option StepS := findS stepT f
def stepC (c : CH) (d : Nat) (ws : List (List UInt8)) : Option CH := match ws with
 | [] => none
 | f :: r => match stepF f with
  | none => none
  | some g => g c d r
def lineC (c : CH) (l : List UInt8) : Option CH := if lineB l = true then stepC c (depthL l) (lineW l) else none
def linesL : List UInt8 -> List (List UInt8)
 | [] => []
 | c :: r => if c = 10 then [] :: linesL r else match linesL r with
  | [] => [[c]]
  | p :: ps => (c :: p) :: ps
def runC : CH -> Nat -> List (List UInt8) -> CH × Nat × Int
 | c, _, [] => (c, 0, 0)
 | c, k, l :: ls => match lineC c l with
  | none => (noCH, k, 1)
  | some c' => runC c' (k + 1) ls
def parseC (s : List UInt8) : CH × Nat × Int :=
 if 6000 < s.length then (noCH, 0, 4) else if s = [] then (noCH, 1, 1) else runC noCH 1 (linesL s)
theorem linesL_ne {s : List UInt8} (h : s ≠ []) : linesL s ≠ [] := by
 cases s with
 | nil => exact absurd rfl h
 | cons c r =>
  unfold linesL;split
  ·simp
  ·split <;> simp
theorem nameB_ne {l : List UInt8} (h : nameB l = true) : l ≠ [] := by
 intro e; subst e; simp [nameB] at h
theorem varS_nm {c c' : CH} {v : VM} (h : varS c v = some c') : c'.nm = c.nm := by
 unfold varS at h; split at h
 ·injection h with h; subst h; rfl
 ·cases h
theorem boundS_nm {c c' : CH} {r : List (List UInt8)} {ik ia ib : Int} (h : boundS c r ik ia ib = some c') : c'.nm = c.nm := by
 unfold boundS at h; split at h
 ·exact varS_nm h
 ·cases h
theorem headB_nm {c : CH} {d n : Nat} {r : List (List UInt8)} (h : headB c d n r = true) : c.nm ≠ [] := by
 unfold headB at h; intro e; rw [e] at h; simp at h
theorem partB_ss {c : CH} {d n : Nat} {r : List (List UInt8)} (h : partB c d n r = true) : c.ss ≠ [] := by
 unfold partB at h; intro e; rw [e] at h; simp at h
theorem lastS_nm {c c' : CH} {f : SC -> Option SC} (h : lastS c f = some c') : c'.nm = c.nm := by
 unfold lastS at h; split at h
 ·cases h
 ·split at h
  ·cases h
  ·injection h with h; subst h; rfl
def Nmd (c : CH) : Prop := c = noCH \/ c.nm ≠ []
theorem Nmd.of_ss {c : CH} (h : Nmd c) (hs : c.ss ≠ []) : c.nm ≠ [] := by
 rcases h with rfl | h
 ·exact absurd rfl hs
 ·exact h
theorem step_nm {f : List UInt8} {g : StepS} (hf : stepF f = some g) {c c' : CH} {d : Nat} {r : List (List UInt8)} (hn : Nmd c) (h : g c d r = some c') : c'.nm ≠ [] := by
 have hst : ∀ k n, stateS k n c d r = some c' -> c'.nm ≠ [] := by
  intro k n h;unfold stateS at h; split at h
  ·rename_i hb
   injection h with h; subst h
   show c.nm ≠ [];intro e; unfold stateB at hb; rw [e] at hb; simp at hb
  ·cases h
 have hm := findS_mem hf;simp only [stepT, List.mem_cons, Prod.mk.injEq, List.not_mem_nil, or_false] at hm;rcases hm with ⟨_, rfl⟩ | ⟨_, rfl⟩ | ⟨_, rfl⟩ | ⟨_, rfl⟩ | ⟨_, rfl⟩ | ⟨_, rfl⟩ | ⟨_, rfl⟩ | ⟨_, rfl⟩ | ⟨_, rfl⟩ | ⟨_, rfl⟩ | ⟨_, rfl⟩ | ⟨_, rfl⟩ | ⟨_, rfl⟩ | ⟨_, rfl⟩
 ·unfold nameS at h; split at h
  ·rename_i hb
   injection h with h; subst h
   simp only [Bool.and_eq_true] at hb;exact nameB_ne hb.2
  ·cases h
 ·unfold eventS at h; split at h
  ·rename_i hb
   injection h with h; subst h
   simp only [Bool.and_eq_true] at hb;exact headB_nm hb.1
  ·cases h
 ·unfold intS at h; split at h
  ·rename_i hb; rw [boundS_nm h]; exact headB_nm hb.1
  ·cases h
 ·unfold boolS at h; split at h
  ·rename_i hb; rw [varS_nm h]; exact headB_nm hb.1
  ·cases h
 ·unfold pointS at h; split at h
  ·rename_i hb
   split at h
   ·rw [boundS_nm h]; exact headB_nm hb
   ·cases h
  ·cases h
 ·exact hst _ _ h
 ·exact hst _ _ h
 ·exact hst _ _ h
 ·exact hst _ _ h
 ·exact hst _ _ h
 ·exact hst _ _ h
 ·unfold entryS at h; split at h
  ·rename_i hb; rw [lastS_nm h]; exact hn.of_ss (partB_ss hb)
  ·cases h
 ·unfold exitS at h; split at h
  ·rename_i hb; rw [lastS_nm h]; exact hn.of_ss (partB_ss hb)
  ·cases h
 ·unfold onS at h; split at h
  ·rename_i hb
   injection h with h; subst h
   simp only [Bool.and_eq_true] at hb;exact hn.of_ss (partB_ss hb.1.1.1.1)
  ·cases h
theorem lineC_nm {c c' : CH} {l : List UInt8} (hn : Nmd c) (h : lineC c l = some c') : c'.nm ≠ [] := by
 unfold lineC at h;split at h
 ·unfold stepC at h;split at h
  ·cases h
  ·split at h
   ·cases h
   ·rename_i hf; exact step_nm hf hn h
 ·cases h
end Go.Proofs.YtcnfcililiehlaaGreatDoor.Ch
namespace Go.Proofs.YtcnfcililiehlaaGreatDoor.Tr
def parF (d : Nat -> Int) (i : Nat) : Nat -> Int
 | 0 => -1
 | k + 1 => if d i <= d k then parF d i k else k
def par (d : Nat -> Int) (i : Nat) : Int := parF d i i
theorem parF_succ (d : Nat -> Int) (i k : Nat) : parF d i (k + 1) = if d i <= d k then parF d i k else (k : Int) := rfl
def lasF (d : Nat -> Int) (i : Nat) : Nat -> Int
 | 0 => -1
 | k + 1 => if d k = d i - 1 then k else lasF d i k
theorem lasF_succ (d : Nat -> Int) (i k : Nat) : lasF d i (k + 1) = if d k = d i - 1 then (k : Int) else lasF d i k := rfl
def endF (d : Nat -> Int) (i : Nat) : Nat -> Nat -> Nat
 | 0, k => k
 | f + 1, k => if d i < d k then endF d i f (k + 1) else k
theorem endF_zero (d : Nat -> Int) (i k : Nat) : endF d i 0 k = k := rfl
theorem endF_succ (d : Nat -> Int) (i f k : Nat) : endF d i (f + 1) k = if d i < d k then endF d i f (k + 1) else k := rfl
def en (d : Nat -> Int) (n i : Nat) : Nat := endF d i (n - (i + 1)) (i + 1)
theorem parF_spec (d : Nat -> Int) (i : Nat) : ∀ k, (parF d i k = -1 /\ ∀ m, m < k -> d i <= d m) \/ ∃ p : Nat, parF d i k = p /\ p < k /\ d p < d i /\ ∀ m, p < m -> m < k -> d i <= d m
 | 0 => Or.inl ⟨rfl, fun m hm => by omega⟩
 | k + 1 => by
  rw [parF_succ];by_cases h : d i <= d k
  ·rw [if_pos h];rcases parF_spec d i k with ⟨h1, h2⟩ | ⟨p, h1, h2, h3, h4⟩
   ·refine Or.inl ⟨h1, fun m hm => ?_⟩;by_cases e : m = k
    ·subst e; exact h
    ·exact h2 m (by omega)
   ·refine Or.inr ⟨p, h1, by omega, h3, fun m hm hk => ?_⟩;by_cases e : m = k
    ·subst e; exact h
    ·exact h4 m hm (by omega)
  ·rw [if_neg h];exact Or.inr ⟨k, rfl, by omega, by omega, fun m h1 h2 => by omega⟩
theorem lasF_spec (d : Nat -> Int) (i : Nat) : ∀ k, (lasF d i k = -1 /\ ∀ m, m < k -> d m ≠ d i - 1) \/ ∃ p : Nat, lasF d i k = p /\ p < k /\ d p = d i - 1 /\ ∀ m, p < m -> m < k -> d m ≠ d i - 1
 | 0 => Or.inl ⟨rfl, fun m hm => by omega⟩
 | k + 1 => by
  rw [lasF_succ];by_cases h : d k = d i - 1
  ·rw [if_pos h];exact Or.inr ⟨k, rfl, by omega, h, fun m h1 h2 => by omega⟩
  ·rw [if_neg h];rcases lasF_spec d i k with ⟨h1, h2⟩ | ⟨p, h1, h2, h3, h4⟩
   ·refine Or.inl ⟨h1, fun m hm => ?_⟩;by_cases e : m = k
    ·subst e; exact h
    ·exact h2 m (by omega)
   ·refine Or.inr ⟨p, h1, by omega, h3, fun m hm hk => ?_⟩;by_cases e : m = k
    ·subst e; exact h
    ·exact h4 m hm (by omega)
theorem endF_spec (d : Nat -> Int) (i : Nat) : ∀ f k, k <= endF d i f k /\ endF d i f k <= k + f /\ (∀ m, k <= m -> m < endF d i f k -> d i < d m) /\ (endF d i f k < k + f -> d (endF d i f k) <= d i)
 | 0, k => ⟨Nat.le_refl _, Nat.le_refl _, fun m h1 h2 => by rw [endF_zero] at h2; omega, fun h => by rw [endF_zero] at h; omega⟩
 | f + 1, k => by
  rw [endF_succ];by_cases h : d i < d k
  ·rw [if_pos h];obtain ⟨h1, h2, h3, h4⟩ := endF_spec d i f (k + 1);refine ⟨by omega, by omega, fun m hm hk => ?_, fun hk => h4 (by omega)⟩;by_cases e : m = k
   ·subst e; exact h
   ·exact h3 m (by omega) hk
  ·rw [if_neg h];exact ⟨Nat.le_refl _, by omega, fun m h1 h2 => by omega, fun _ => by omega⟩
theorem en_spec (d : Nat -> Int) {n i : Nat} (hi : i < n) : i < en d n i /\ en d n i <= n /\ (∀ m, i < m -> m < en d n i -> d i < d m) /\ (en d n i < n -> d (en d n i) <= d i) := by
 obtain ⟨h1, h2, h3, h4⟩ := endF_spec d i (n - (i + 1)) (i + 1);have e : i + 1 + (n - (i + 1)) = n := by omega
 rw [e] at h2 h4;exact ⟨by unfold en; omega, h2, fun m hm hk => h3 m (by omega) hk, h4⟩
structure Nst (d : Nat -> Int) (n : Nat) : Prop where
 lo : ∀ i, i < n -> 0 <= d i
 hi : ∀ i, i < n -> d i < 6
 first : 0 < n -> d 0 <= 0
 step : ∀ i, i + 1 < n -> d (i + 1) <= d i + 1
section
variable {d : Nat -> Int} {n : Nat}
theorem Nst.nearest (h : Nst d n) {i : Nat} (hi : i < n) : (par d i = -1 /\ d i = 0) \/ ∃ p : Nat, par d i = p /\ p < i /\ d p = d i - 1 /\ ∀ m, p < m -> m < i -> d i <= d m := by
 rcases parF_spec d i i with ⟨h1, h2⟩ | ⟨p, h1, h2, h3, h4⟩
 ·refine Or.inl ⟨h1, ?_⟩;have h0 := h.lo i hi;have hf := h.first (by omega);rcases Nat.eq_zero_or_pos i with e | e
  ·subst e; omega
  ·have := h2 0 e; omega
 ·refine Or.inr ⟨p, h1, h2, ?_, h4⟩;have hs := h.step p (by omega);by_cases e : p + 1 = i
  ·rw [e] at hs; omega
  ·have := h4 (p + 1) (by omega) (by omega); omega
theorem Nst.las (h : Nst d n) {i : Nat} (hi : i < n) : lasF d i i = par d i := by
 rcases h.nearest hi with ⟨h1, h2⟩ | ⟨p, h1, h2, h3, h4⟩
 ·rw [h1];rcases lasF_spec d i i with ⟨g1, _⟩ | ⟨q, g1, g2, g3, _⟩
  ·exact g1
  ·have := h.lo q (by omega); omega
 ·rw [h1];rcases lasF_spec d i i with ⟨g1, g2⟩ | ⟨q, g1, g2, g3, g4⟩
  ·exact absurd h3 (g2 p h2)
  ·rw [g1];have : q = p := by
    rcases Nat.lt_trichotomy q p with e | e | e
    ·exact absurd h3 (g4 p e h2)
    ·exact e
    ·have := h4 q e g2; omega
   rw [this]
theorem Nst.par_neg (h : Nst d n) {i : Nat} (hi : i < n) : par d i = -1 ↔ d i = 0 := by
 rcases h.nearest hi with ⟨h1, h2⟩ | ⟨p, h1, h2, h3, h4⟩
 ·simp [h1, h2]
 ·have := h.lo p (by omega);constructor
  ·intro e; omega
  ·intro e; omega
theorem Nst.par_eq (h : Nst d n) {i p : Nat} (hi : i < n) (hp : p < i) (h1 : d p < d i) (h2 : ∀ m, p < m -> m < i -> d i <= d m) : par d i = p := by
 rcases h.nearest hi with ⟨g1, g2⟩ | ⟨q, g1, g2, g3, g4⟩
 ·have := h.lo p (by omega); omega
 ·rw [g1];rcases Nat.lt_trichotomy q p with e | e | e
  ·have := g4 p e hp; omega
  ·rw [e]
  ·have := h2 q e g2; omega
def wi (d : Nat -> Int) (i j : Nat) : Prop := i < j /\ ∀ m, i < m -> m <= j -> d i < d m
theorem wi_iff {i j : Nat} (hi : i < n) (hj : j < n) : wi d i j ↔ i < j /\ j < en d n i := by
 obtain ⟨g1, g2, g3, g4⟩ := en_spec d hi;constructor
 ·intro ⟨h1, h2⟩;refine ⟨h1, ?_⟩;by_cases h : en d n i <= j
  ·have := h2 _ g1 h; have := g4 (by omega); omega
  ·omega
 ·intro ⟨h1, h2⟩;exact ⟨h1, fun m hm hk => g3 m hm (by omega)⟩
noncomputable instance {i j : Nat} : Decidable (wi d i j) := Classical.propDecidable _
theorem Nst.wi_par (h : Nst d n) {i j : Nat} (hj : j < n) : wi d i j ↔ ∃ p : Nat, par d j = p /\ (p = i \/ wi d i p) := by
 rcases h.nearest hj with ⟨g1, g2⟩ | ⟨p, g1, g2, g3, g4⟩
 ·constructor
  ·intro ⟨h1, h2⟩;have := h2 j h1 (Nat.le_refl _); have := h.lo i (by omega); omega
  ·rintro ⟨p, hp, _⟩; omega
 ·constructor
  ·intro ⟨h1, h2⟩;refine ⟨p, g1, ?_⟩;rcases Nat.lt_trichotomy p i with e | e | e
   ·have := g4 i e h1; have := h2 j h1 (Nat.le_refl _); omega
   ·exact Or.inl e
   ·exact Or.inr ⟨e, fun m hm hk => h2 m hm (by omega)⟩
  ·rintro ⟨q, hq, hr⟩;rw [g1] at hq;obtain rfl : p = q := by omega
   rcases hr with rfl | ⟨h1, h2⟩
   ·refine ⟨g2, fun m hm hk => ?_⟩;by_cases e : m = j
    ·subst e; omega
    ·have := g4 m hm (by omega); omega
   ·refine ⟨by omega, fun m hm hk => ?_⟩;by_cases e : m <= p
    ·exact h2 m hm e
    ·have := h2 p h1 (Nat.le_refl _);by_cases e2 : m = j
     ·subst e2; omega
     ·have := g4 m (by omega) (by omega); omega
def kidB (d : Nat -> Int) (i : Nat) (k : Nat) : Bool := decide (par d k = (i : Int))
def kids (d : Nat -> Int) (m i : Nat) : List Nat := (List.range m).filter (kidB d i)
theorem kids_succ (d : Nat -> Int) (m i : Nat) : kids d (m + 1) i = kids d m i ++ (if kidB d i m = true then [m] else []) := by
 unfold kids;rw [List.range_succ, List.filter_append]
 congr 1
 cases h : kidB d i m <;> simp [h]
theorem kids_to {i : Nat} : ∀ (g m : Nat), (∀ k, m <= k -> k < m + g -> kidB d i k = false) -> kids d (m + g) i = kids d m i
 | 0, m, _ => rfl
 | g + 1, m, h => by
  rw [show m + (g + 1) = (m + g) + 1 by omega, kids_succ, kids_to g m (fun k h1 h2 => h k h1 (by omega)), h (m + g) (by omega) (by omega)];simp
theorem kids_same {i m m' : Nat} (hm : m <= m') (h : ∀ k, m <= k -> k < m' -> kidB d i k = false) : kids d m' i = kids d m i := by
 have := kids_to (d := d) (i := i) (m' - m) m (fun k h1 h2 => h k h1 (by omega))
 rwa [show m + (m' - m) = m' by omega] at this
theorem mem_kids {i m k : Nat} : k ∈ kids d m i ↔ k < m /\ par d k = (i : Int) := by
 unfold kids kidB;rw [List.mem_filter, List.mem_range, decide_eq_true_iff]
theorem Nst.kid (h : Nst d n) {i k : Nat} (hk : k < n) (hp : par d k = (i : Int)) : i < k /\ d k = d i + 1 /\ ∀ m, i < m -> m < k -> d k <= d m := by
 rcases h.nearest hk with ⟨g1, g2⟩ | ⟨p, g1, g2, g3, g4⟩
 ·omega
 ·obtain rfl : p = i := by omega
  exact ⟨g2, by omega, g4⟩
theorem Nst.kids_first (h : Nst d n) {i : Nat} (hi : i < n) : kids d (i + 1) i = [] := by
 have : kids d (i + 1) i = kids d 0 i := kids_same (by omega) fun k _ hk => decide_eq_false fun e => by
  have := (h.kid (i := i) (k := k) (by omega) e).1; omega
 exact this
theorem Nst.first_kid (h : Nst d n) {i : Nat} (hi : i < n) (hk : i + 1 < en d n i) : par d (i + 1) = (i : Int) := by
 obtain ⟨g1, g2, g3, g4⟩ := en_spec d hi;exact h.par_eq (by omega) (by omega) (g3 _ (by omega) hk) (fun m h1 h2 => by omega)
theorem Nst.next_kid (h : Nst d n) {i k : Nat} (hi : i < n) (hk : k < en d n i) (hp : par d k = (i : Int)) :
 k < en d n k /\ en d n k <= en d n i /\ kids d (en d n k) i = kids d k i ++ [k] /\ (en d n k < en d n i -> par d (en d n k) = (i : Int)) := by
 obtain ⟨g1, g2, g3, g4⟩ := en_spec d hi;have hkn : k < n := by omega
 obtain ⟨e1, e2, e3⟩ := h.kid hkn hp;obtain ⟨f1, f2, f3, f4⟩ := en_spec d hkn;have hle : en d n k <= en d n i := by
  by_cases c : en d n k <= en d n i
  ·exact c
  ·have := f3 (en d n i) hk (by omega); have := g4 (by omega); omega
 refine ⟨f1, hle, ?_, fun hlt => ?_⟩
 ·rw [kids_same (m := k + 1) f1 (fun m h1 h2 => decide_eq_false fun e => ?_), kids_succ]
  ·rw [show kidB d i k = true from decide_eq_true hp]; rfl
  ·obtain ⟨_, q2, q3⟩ := h.kid (by omega) e;have := f3 m (by omega) h2; omega
 ·have := f4 (by omega);have := g3 (en d n k) (by omega) hlt;exact h.par_eq (by omega) (by omega) (by omega) (fun m h1 h2 => by
   by_cases c : m < k
   ·have := e3 m h1 c; omega
   ·by_cases c2 : m = k
    ·subst c2; omega
    ·have := f3 m (by omega) h2; omega)
theorem Nst.kids_end (h : Nst d n) {i : Nat} (hi : i < n) : kids d n i = kids d (en d n i) i := by
 obtain ⟨g1, g2, g3, g4⟩ := en_spec d hi;refine kids_same g2 fun k h1 h2 => decide_eq_false fun e => ?_
 obtain ⟨e1, e2, e3⟩ := h.kid h2 e;by_cases c : k = en d n i
 ·subst c; have := g4 h2; omega
 ·have := e3 (en d n i) g1 (by omega); have := g4 (by omega); omega
def lastP (q : Nat -> Bool) : Nat -> Int
 | 0 => -1
 | k + 1 => if q k = true then k else lastP q k
theorem lastP_spec (q : Nat -> Bool) : ∀ k, (lastP q k = -1 /\ ∀ m, m < k -> q m = false) \/ ∃ p : Nat, lastP q k = p /\ p < k /\ q p = true /\ ∀ m, p < m -> m < k -> q m = false
 | 0 => Or.inl ⟨rfl, fun m hm => by omega⟩
 | k + 1 => by
  unfold lastP;by_cases h : q k = true
  ·rw [if_pos h]; exact Or.inr ⟨k, rfl, by omega, h, fun m h1 h2 => by omega⟩
  ·rw [if_neg h];have h := Bool.eq_false_iff.2 h;rcases lastP_spec q k with ⟨h1, h2⟩ | ⟨p, h1, h2, h3, h4⟩
   ·refine Or.inl ⟨h1, fun m hm => ?_⟩;by_cases e : m = k
    ·subst e; exact h
    ·exact h2 m (by omega)
   ·refine Or.inr ⟨p, h1, by omega, h3, fun m hm hk => ?_⟩;by_cases e : m = k
    ·subst e; exact h
    ·exact h4 m hm (by omega)
theorem lastP_congr {q q' : Nat -> Bool} {k k' : Nat} (h : ∀ m, (m < k /\ q m = true) ↔ (m < k' /\ q' m = true)) : lastP q k = lastP q' k' := by
 rcases lastP_spec q k with ⟨h1, h2⟩ | ⟨p, h1, h2, h3, h4⟩ <;> rcases lastP_spec q' k' with ⟨g1, g2⟩ | ⟨r, g1, g2, g3, g4⟩
 ·rw [h1, g1]
 ·obtain ⟨a, b⟩ := (h r).2 ⟨g2, g3⟩;rw [h2 r a] at b; cases b
 ·obtain ⟨a, b⟩ := (h p).1 ⟨h2, h3⟩;rw [g2 p a] at b; cases b
 ·rw [h1, g1];have : p = r := by
   rcases Nat.lt_trichotomy p r with e | e | e
   ·obtain ⟨a, b⟩ := (h r).2 ⟨g2, g3⟩;rw [h4 r e a] at b; cases b
   ·exact e
   ·obtain ⟨a, b⟩ := (h p).1 ⟨h2, h3⟩;rw [g4 p e a] at b; cases b
  rw [this]
noncomputable def one (d kd : Nat -> Int) (t m : Nat) : Bool := decide (kd m = 2 /\ wi d m t)
noncomputable def up (d : Nat -> Int) (k m : Nat) : Bool := decide (m = k \/ wi d m k)
noncomputable def dom (d kd : Nat -> Int) (k t : Nat) : Int := lastP (fun m => up d k m && one d kd t m) (k + 1)
theorem dom_here {kd : Nat -> Int} {k t : Nat} (h : one d kd t k = true) : dom d kd k t = k := by
 unfold dom lastP;rw [if_pos (by simp [h, up])]
theorem Nst.dom_par (h : Nst d n) {kd : Nat -> Int} {k t p : Nat} (hk : k < n) (ho : one d kd t k = false) (hp : par d k = (p : Int)) : dom d kd k t = dom d kd p t := by
 obtain ⟨e1, e2, e3⟩ := h.kid hk hp;refine lastP_congr fun m => ?_
 simp only [Bool.and_eq_true, up, decide_eq_true_iff];constructor
 ·rintro ⟨h1, h2, h3⟩;rcases h2 with rfl | h2
  ·rw [ho] at h3; cases h3
  ·obtain ⟨q, hq, hr⟩ := (h.wi_par hk).1 h2;obtain rfl : p = q := by omega
   rcases hr with rfl | hr
   ·exact ⟨by omega, Or.inl rfl, h3⟩
   ·exact ⟨by have := hr.1; omega, Or.inr hr, h3⟩
 ·rintro ⟨h1, h2, h3⟩;have hw : wi d m k := (h.wi_par hk).2 ⟨p, hp, h2.imp Eq.symm id⟩;exact ⟨by have := hw.1; omega, Or.inr hw, h3⟩
theorem Nst.dom_none (h : Nst d n) {kd : Nat -> Int} {k t : Nat} (hk : k < n) (ho : one d kd t k = false) (hp : par d k = -1) : dom d kd k t = -1 := by
 unfold dom;rcases lastP_spec (fun m => up d k m && one d kd t m) (k + 1) with ⟨h1, _⟩ | ⟨m, _, h2, h3, _⟩
 ·exact h1
 ·simp only [Bool.and_eq_true, up, decide_eq_true_iff] at h3;rcases h3.1 with e | hw
  ·subst e;rw [ho] at h3;exact absurd h3.2 (by simp)
  ·obtain ⟨q, hq, _⟩ := (h.wi_par hk).1 hw;omega
theorem dom_spec {kd : Nat -> Int} (k t : Nat) : (dom d kd k t = -1 /\ ∀ m, m <= k -> up d k m = true -> one d kd t m = false) \/ ∃ p : Nat, dom d kd k t = p /\ p <= k /\ up d k p = true /\ one d kd t p = true /\ ∀ m, p < m -> m <= k -> up d k m = true -> one d kd t m = false := by
 unfold dom;rcases lastP_spec (fun m => up d k m && one d kd t m) (k + 1) with ⟨h1, h2⟩ | ⟨p, h1, h2, h3, h4⟩
 ·exact Or.inl ⟨h1, fun m hm hu => by have := h2 m (by omega); rw [hu] at this; simpa using this⟩
 ·simp only [Bool.and_eq_true] at h3;exact Or.inr ⟨p, h1, by omega, h3.1, h3.2, fun m h5 h6 hu => by have := h4 m h5 (by omega); rw [hu] at this; simpa using this⟩
end
def mayP (k c : Int) : Prop := k = 2 \/ (k = 3 /\ c <= 3)
def parentP (k : Int) : Prop := k = 2 \/ k = 3
def pastP (k : Int) : Prop := k = 5 \/ k = 6
instance {k c : Int} : Decidable (mayP k c) := by unfold mayP; infer_instance
instance {k : Int} : Decidable (parentP k) := by unfold parentP; infer_instance
instance {k : Int} : Decidable (pastP k) := by unfold pastP; infer_instance
def regs (d : Nat -> Int) : Nat -> Nat
 | 0 => 0
 | k + 1 => regs d k + if d k = 0 then 1 else 0
theorem regs_le (d : Nat -> Int) : ∀ k, regs d k <= k
 | 0 => Nat.le_refl _
 | k + 1 => by
  have := regs_le d k;unfold regs; split <;> omega
structure Fine (d kd : Nat -> Int) (i : Nat) : Prop where
 kind : 1 <= kd i /\ kd i <= 6
 region : d i = 0 -> kd i = 2
def Fil (d kd : Nat -> Int) (n i : Nat) : Prop := (∀ k ∈ kids d n i, mayP (kd i) (kd k)) /\ ((∃ k ∈ kids d n i, ¬ pastP (kd k)) ↔ parentP (kd i))
noncomputable instance {d kd : Nat -> Int} {n i : Nat} : Decidable (Fil d kd n i) := Classical.propDecidable _
structure RightP (d kd : Nat -> Int) (n : Nat) : Prop where
 pos : 1 <= n
 le : n <= 40
 nst : Nst d n
 fine : ∀ i, i < n -> Fine d kd i
 fil : ∀ i, i < n -> Fil d kd n i
 regs : regs d n <= 4
noncomputable instance {d kd : Nat -> Int} {n : Nat} : Decidable (RightP d kd n) := Classical.propDecidable _
noncomputable instance {d : Nat -> Int} {n : Nat} : Decidable (Nst d n) := Classical.propDecidable _
theorem fil_iff {d kd : Nat -> Int} {n : Nat} :
 (∀ i, i < n -> Fil d kd n i) ↔ (∀ k, k < n -> ∀ p : Nat, p < n -> par d k = (p : Int) -> mayP (kd p) (kd k)) /\ ∀ i, i < n -> parentP (kd i) -> ∃ k ∈ kids d n i, ¬ pastP (kd k) := by
 constructor
 ·intro h;refine ⟨fun k hk p hp e => (h p hp).1 k (mem_kids.2 ⟨hk, e⟩), fun i hi hp => (h i hi).2.2 hp⟩
 ·rintro ⟨h1, h2⟩ i hi;refine ⟨fun k hk => h1 k (mem_kids.1 hk).1 i hi (mem_kids.1 hk).2, fun ⟨k, hk, _⟩ => ?_, h2 i hi⟩;have := h1 k (mem_kids.1 hk).1 i hi (mem_kids.1 hk).2;rcases this with e | ⟨e, _⟩
  ·exact Or.inl e
  ·exact Or.inr e
end Go.Proofs.YtcnfcililiehlaaGreatDoor.Tr
