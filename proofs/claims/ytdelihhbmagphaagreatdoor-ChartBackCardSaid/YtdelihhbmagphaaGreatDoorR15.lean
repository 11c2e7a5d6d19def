/- Own texts, joined: Vl, Ot, A6, Shel2, Vq, Vs, A7, F8. -/
import Derived.Test.YtdelihhbmagphaaGreatDoorR3
import Derived.Test.YtdelihhbmagphaaGreatDoorR7
import Derived.Test.YtdelihhbmagphaaGreatDoorR11
import Derived.Test.YtdelihhbmagphaaGreatDoorR12
import Derived.Test.YtdelihhbmagphaaGreatDoorR13
import Derived.Test.YtdelihhbmagphaaGreatDoorR14
import Derived.WalkMore
import Derived.Shelf.Strings.Builder1
import Derived.Shelf.Strings.Builder2
import Derived.Shelf.Strings.OnBuilder
import Derived.Shelf.Small.Utf8
import Derived.Shelf.Small.Strs
import Derived.Shelf.Small.Wraps
import Derived.Shelf.Strings.BuilderF
import Derived.Shelf.Strings.BuilderK
import Derived.Shelf.Utf8.RuneCount
import Derived.Shelf.Strings.Builder2Cap
import Derived.Shelf.Strconv.Itoa0
import Derived.Shelf.Strconv.Itoa1
import Derived.Shelf.LaysM
import Derived.Shelf.Strconv.Itoa2
import Derived.Shelf.Strconv.Itoa3
import Derived.Shelf.Strconv.Itoa4
import Derived.Shelf.Strconv.ParseIntEmpty
import Derived.Shelf.Strconv.Clone
import Derived.Shelf.Strconv.SyntaxError
import Derived.Shelf.LaysC
import Derived.Shelf.Strconv.ToError
import Derived.Shelf.Strconv.Lower
import Derived.Shelf.Strconv.ParseUint10
import Derived.Shelf.Strconv.ParseUint10Empty
import Derived.Shelf.Strconv.ParseUint10Any
import Derived.Shelf.Strconv.ParseInt10
import Derived.Shelf.Strconv.RangeError
import Derived.Shelf.Strconv.ToErrorRange
import Derived.Shelf.Strconv.ParseUintEmpty
import Derived.Shelf.Strconv.ParseUint10b64
import Derived.Shelf.Strconv.ParseUint10b32
import Derived.Shelf.Strconv.ParseUint10b16
import Derived.Shelf.Strconv.ParseUint10b8
import Derived.Shelf.Strconv.ParseUint10At
import Derived.Shelf.Strconv.ParseInt10At64
import Derived.Shelf.Strconv.ParseInt10At32
import Derived.Shelf.Strconv.ParseInt10At16
import Derived.Shelf.Strconv.ParseInt10At8
import Derived.Shelf.Strconv.ParseInt10All
import Derived.Shelf.Strconv.ParseIntPublic10
import Derived.Shelf.Strconv.ErrVarParseInt
import Derived.Shelf.Strings.Search1
import Derived.Shelf.Strings.Search2
import Derived.Shelf.Strings.Search3
import Derived.Shelf.Strings.Cut
import Derived.Shelf.Strings.Count
import Derived.Shelf.Strings.Shaped
import Derived.Shelf.Strings.Prefix
import Derived.Shelf.Strings.Split
import Derived.Shelf.Strings.SplitShaped
import Derived.Shelf.Unicode.Decode
import Derived.Shelf.Strings.Runes
import Derived.Shelf.Strings.RuneCount
import Derived.Shelf.Strings.IndexAny
import Derived.Shelf.Strings.AsciiSet
import Derived.Shelf.Strings.IndexAnyAll
import Derived.Shelf.Strings.Explode
import Derived.Shelf.Bits.Mul64
import Derived.Shelf.Strings.Repeat
import Derived.Shelf.Strings.BuilderCap
import Derived.Shelf.Slices.Equal
import Derived.Shelf.Slices.Empties2
import Derived.Test.YtdelihhbmagphaaGreatDoorProg
import Derived.ProofKit
import Derived.Deep.Slices
import Derived.Lib.LaidTab
import Derived.Lib.LaidU8
import Derived.LaidMore
namespace Go.Proofs.YtdelihhbmagphaaGreatDoor
open Go.RowKit
theorem at3 {w : World} {D : Nat} {x0 x1 x2 : Value} {t : TypeId} (h : w.heap[D]? = some (.cells #[x0, x1, x2] t (0, 0))) :
  w.cell? ⟨D, 0, none⟩ = some x0 ∧ w.cell? ⟨D, 1, none⟩ = some x1 ∧ w.cell? ⟨D, 2, none⟩ = some x2 ∧
  w.frozen? ⟨D, 0, none⟩ = false ∧ w.frozen? ⟨D, 1, none⟩ = false ∧ w.frozen? ⟨D, 2, none⟩ = false := by
 simp [World.cell?, World.frozen?, h]
theorem fin3 {w w1 : World} {D B : Nat} {x0 x1 x2 : Value} {t : TypeId} (h : w1.heap[D]? = some (.cells #[x0, x1, x2] t (0, 0))) (hB : B ≤ D) (hb : Below B w w1) (u0 u1 u2 : Value) :
  ((((w1.setCell ⟨D, 0, none⟩ u0).setCell ⟨D, 1, none⟩ u1).setCell ⟨D, 2, none⟩ u2).cell? ⟨D, 0, none⟩ = some u0 ∧
  (((w1.setCell ⟨D, 0, none⟩ u0).setCell ⟨D, 1, none⟩ u1).setCell ⟨D, 2, none⟩ u2).cell? ⟨D, 1, none⟩ = some u1 ∧
  (((w1.setCell ⟨D, 0, none⟩ u0).setCell ⟨D, 1, none⟩ u1).setCell ⟨D, 2, none⟩ u2).cell? ⟨D, 2, none⟩ = some u2) ∧
  Below B w (((w1.setCell ⟨D, 0, none⟩ u0).setCell ⟨D, 1, none⟩ u1).setCell ⟨D, 2, none⟩ u2) := by
 have h1 := heap_setCell_same _ _ 0 _ _ u0 h
 have h2 := heap_setCell_same _ _ 1 _ _ u1 h1
 have h3 := heap_setCell_same _ _ 2 _ _ u2 h2
 obtain ⟨r0, r1, r2, _⟩ := at3 (x0 := u0) (x1 := u1) (x2 := u2) h3
 exact ⟨⟨r0, r1, r2⟩, ((hb.setCell hB _).setCell hB _).setCell hB _⟩
end Go.Proofs.YtdelihhbmagphaaGreatDoor
namespace Go.Proofs.YtdelihhbmagphaaGreatDoor
open Go.RowKit
section
variable {w : World} {B : Nat} {e : TypeId} {size n cap g : Nat} {xs : List Value}
theorem own_cells (h : w.ownsRow B e size (.slice (some ⟨g, 0, none⟩) n cap) n xs) : ∃ cur : Array Value, B ≤ g ∧ w.heap[g]? = some (.cells cur e (0, 0)) ∧ n ≤ cap ∧ cap ≤ maxLen ∧ cur.size = cap * size ∧ cur.toList.take (n * size) = xs := by
 obtain ⟨_, ⟨hv, _⟩ | ⟨g', cap', cur, hv, h1, h2, h3, h4, h5, h6⟩⟩ := h
 ·cases hv
 ·simp only [Value.slice.injEq, Option.some.injEq, Addr.mk.injEq, and_true, true_and] at hv
  obtain ⟨rfl, rfl⟩ := hv
  exact ⟨cur, h1, h2, h3, h4, h5, h6⟩
theorem own_frozen (h : w.ownsRow B e size (.slice (some ⟨g, 0, none⟩) n cap) n xs) (j : Nat) : w.frozen? ⟨g, j, none⟩ = false := by
 obtain ⟨cur, _, h2, _⟩ := own_cells h
 simp [World.frozen?, h2]
theorem own_set (h : w.ownsRow B e size (.slice (some ⟨g, 0, none⟩) n cap) n xs) (j : Nat) (u : Value) : (w.setCell ⟨g, j, none⟩ u).ownsRow B e size (.slice (some ⟨g, 0, none⟩) n cap) n (xs.set j u) := by
 obtain ⟨cur, h1, h2, h3, h4, h5, h6⟩ := own_cells h
 refine ⟨by rw [List.length_set]; exact h.1, Or.inr ⟨g, cap, cur.setIfInBounds j u, rfl, h1, heap_setCell_same _ _ _ _ _ _ h2, h3, h4, by simpa using h5, ?_⟩⟩
 rw [Array.toList_setIfInBounds, ← h6, List.take_set]
end
end Go.Proofs.YtdelihhbmagphaaGreatDoor
namespace Go.Proofs.YtdelihhbmagphaaGreatDoor
open Go.RowKit
theorem infoStrS : (Tryz.prog.info? 9).map (fun i => (i.zero, i.size, i.bytes)) = some (some (.string ByteArray.empty), 1, 16) := by kernel_rfl
theorem info_of {e : TypeId} {z : Value} {s b : Nat} (h : (Tryz.prog.info? e).map (fun i => (i.zero, i.size, i.bytes)) = some (some z, s, b)) : ∃ i, Tryz.prog.info? e = some i ∧ i.zero = some z ∧ i.size = s ∧ i.bytes = b := by
 match hh : Tryz.prog.info? e, h with
 | some i, h => simp only [Option.map_some, Option.some.injEq, Prod.mk.injEq] at h; exact ⟨i, rfl, h.1, h.2.1, h.2.2⟩
structure Rows3 (B : Nat) (w : World) (xv rv sv : Value) (xs : List VA) (r s : List (List UInt8)) : Prop where
 x : w.ownsRow B 62 3 xv xs.length (flatX xs)
 r : w.ownsRow B 9 1 rv r.length (r.map bstr)
 s : w.ownsRow B 9 1 sv s.length (s.map bstr)
 xr : ∀ g, xv.ownBlock = some g → rv.ownBlock ≠ some g
 xs : ∀ g, xv.ownBlock = some g → sv.ownBlock ≠ some g
 rs : ∀ g, rv.ownBlock = some g → sv.ownBlock ≠ some g
theorem own_grown {w w' : World} {B : Nat} {e : TypeId} {size n : Nat} {v v' : Value} {xs : List Value} (h : w.ownsRow B e size v n xs) (hg : w.grownBy w' v'.ownBlock) (hne : ∀ g, v'.ownBlock = some g → v.ownBlock ≠ some g) : w'.ownsRow B e size v n xs := by
 refine h.kept hg ?_
 cases hv : v.ownBlock with
 | none => exact Or.inl rfl
 | some g => exact Or.inr (fun he => hne g he.symm hv)
theorem ne_symm {v v' : Value} (h : ∀ g, v.ownBlock = some g → v'.ownBlock ≠ some g) : ∀ g, v'.ownBlock = some g → v.ownBlock ≠ some g := fun g h1 h2 => h g h2 h1
theorem Rows3.below {B : Nat} {w w' : World} {xv rv sv : Value} {xs : List VA} {r s : List (List UInt8)} (h : Rows3 B w xv rv sv xs r s) (hb : Below w.heap.size w w') : Rows3 B w' xv rv sv xs r s :=
 ⟨own_below h.x hb, own_below h.r hb, own_below h.s hb, h.xr, h.xs, h.rs⟩
theorem Rows3.set {B : Nat} {w w' : World} {xv rv sv : Value} {xs xs' : List VA} {r s : List (List UInt8)} (h : Rows3 B w xv rv sv xs r s) (hx : w'.ownsRow B 62 3 xv xs'.length (flatX xs')) (hg : w.grownBy w' xv.ownBlock) : Rows3 B w' xv rv sv xs' r s :=
 ⟨hx, own_grown h.r hg h.xr, own_grown h.s hg h.xs, h.xr, h.xs, h.rs⟩
theorem new_ne {B : Nat} {w w' : World} {e : TypeId} {size n : Nat} {v v' u : Value} {xs : List Value} (h : w.ownsRow B e size u n xs) (hne : ∀ g, u.ownBlock = some g → v.ownBlock ≠ some g) (hob : (v'.ownBlock = v.ownBlock ∧ ∀ g, v'.ownBlock = some g → g < w'.heap.size) ∨ ∀ g, v'.ownBlock = some g → w.heap.size ≤ g ∧ g < w'.heap.size) : ∀ g, u.ownBlock = some g → v'.ownBlock ≠ some g := by
 intro g hu hv
 rcases hob with ⟨he, _⟩ | hf
 ·rw [he] at hv; exact hne g hu hv
 ·have := (hf g hv).1; have := (h.lt g hu).2; omega
structure DoI (vs : List VM) (al : List AM) (xs0 : List VA) (n k : Nat) (xs : List VA) (r s : List (List UInt8)) : Prop where
 le : k ≤ n
 xl : xs.length = xs0.length
 rl : r.length ≤ k
 sl : s.length ≤ k
 inl : ∀ x ∈ xs, inL x.a = true
 rest : doP vs (al.drop k) xs r s = doP vs al xs0 [] []
theorem doP_cons (vs : List VM) (a : AM) (al : List AM) (xs : List VA) (r s : List (List UInt8)) : doP vs (a :: al) xs r s =
  if a.kd = 1 then (match setP vs xs a with | some ys => doP vs al ys r s | none => ⟨xs, r ++ [wErr], s, false⟩)
  else if a.kd = 2 then doP vs al xs (r ++ [a.nm]) s
  else if a.kd = 3 then doP vs al xs r (s ++ [a.nm])
  else ⟨xs, r ++ [wErr], s, false⟩ := rfl
section
variable {vs : List VM} {al : List AM} {xs0 xs : List VA} {n k : Nat} {r s : List (List UInt8)}
theorem DoI.open (h : DoI vs al xs0 n k xs r s) (hn : al.length = n) (hk : k < n) {kd : Int} {nm : List UInt8} {ex : List CM} (ha : al[k]'(by omega) = ⟨kd, nm, ex⟩) : doP vs (⟨kd, nm, ex⟩ :: al.drop (k + 1)) xs r s = doP vs al xs0 [] [] := by
 rw [← h.rest, ← ha, ← List.drop_eq_getElem_cons]
theorem DoI.set (h : DoI vs al xs0 n k xs r s) (hn : al.length = n) (hk : k < n) {nm : List UInt8} {ex : List CM} (ha : al[k]'(by omega) = ⟨1, nm, ex⟩) {ys : List VA} (hs : setP vs xs ⟨1, nm, ex⟩ = some ys) : DoI vs al xs0 n (k + 1) ys r s := by
 have ho := h.open hn hk ha
 rw [doP_cons, if_pos rfl, hs] at ho
 exact ⟨hk, (set_len hs).trans h.xl, by have := h.rl; omega, by have := h.sl; omega, set_in h.inl hs, ho⟩
theorem DoI.none (h : DoI vs al xs0 n k xs r s) (hn : al.length = n) (hk : k < n) {kd : Int} {nm : List UInt8} {ex : List CM} (ha : al[k]'(by omega) = ⟨kd, nm, ex⟩) (h1 : kd ≠ 1) (h2 : kd ≠ 2) (h3 : kd ≠ 3) : doP vs al xs0 [] [] = ⟨xs, r ++ [wErr], s, false⟩ := by
 have ho := h.open hn hk ha
 rw [doP_cons, if_neg h1, if_neg h2, if_neg h3] at ho
 exact ho.symm
end
theorem one_str (X : ByteArray) : ∀ u ∈ [Value.string X], u.oneCell' = true := by intro u hu; simp only [List.mem_cons, List.not_mem_nil, or_false] at hu; subst hu; rfl
theorem inn_one (w : World) (u : Value) (t : TypeId) {D : Nat} (hD : w.heap.size = D) : Inn (w.alloc (.cells #[u] t)) 1 (.slice (some ⟨D, 0, none⟩) 1 1) 1 [u] := hD ▸ Inn.of_own (Oz.own_laid (B := 0) (size := 1) w #[u] (Nat.zero_le _) (by decide) rfl)
end Go.Proofs.YtdelihhbmagphaaGreatDoor
namespace Go.Proofs
open Go.Shelf
def Tryz.lays156_ren : Go.Shelf.Ren := ⟨fun | 156 => 95 | 165 => 132 | 166 => 93 | 169 => 27 | 240 => 129 | 241 => 167 | 276 => 163 | 277 => 193 | n => n, fun | 31 => 22 | 9 => 9 | 3 => 3 | 4 => 4 | 0 => 0 | 20 => 20 | 72 => 76 | 76 => 144 | 70 => 73 | 37 => 74 | 75 => 143 | 127 => 102 | 164 => 214 | 5 => 5 | 80 => 80 | n => n, fun | n => n⟩
theorem Tryz.lays156 : Go.Proofs.Lays.n156 Tryz.prog Tryz.lays156_ren := {
 mixed := by kernel_rfl
 f156 := Tryz.func95.trans (congrArg some (by kernel_rfl))
 f165 := Tryz.func132.trans (congrArg some (by kernel_rfl))
 f166 := Tryz.func93.trans (congrArg some (by kernel_rfl))
 f169 := Tryz.func27.trans (congrArg some (by kernel_rfl))
 f240 := Tryz.func129.trans (congrArg some (by kernel_rfl))
 f241 := Tryz.func167.trans (congrArg some (by kernel_rfl))
 f276 := Tryz.func163.trans (congrArg some (by kernel_rfl))
 f277 := Tryz.func193.trans (congrArg some (by kernel_rfl))
 t0 := Tryz.underlying0
 a0 := Tryz.isAgg0
 z0 := Tryz.sizeOf0
 v0 := Tryz.zeroValue0
 t3 := Tryz.underlying3
 a3 := Tryz.isAgg3
 z3 := Tryz.sizeOf3
 v3 := Tryz.zeroValue3
 t4 := Tryz.underlying4
 a4 := Tryz.isAgg4
 z4 := Tryz.sizeOf4
 v4 := Tryz.zeroValue4
 t9 := Tryz.underlying9
 a9 := Tryz.isAgg9
 z9 := Tryz.sizeOf9
 v9 := Tryz.zeroValue9
 t20 := Tryz.underlying20
 a20 := Tryz.isAgg20
 z20 := Tryz.sizeOf20
 v20 := Tryz.zeroValue20
 t31 := Tryz.underlying22
 a31 := Tryz.isAgg22
 z31 := Tryz.sizeOf22
 v31 := Tryz.zeroValue22
 t37 := Tryz.underlying74
 a37 := Tryz.isAgg74
 z37 := Tryz.sizeOf74
 v37 := Tryz.zeroValue74
 t70 := Tryz.underlying73
 a70 := Tryz.isAgg73
 z70 := Tryz.sizeOf73
 v70 := Tryz.zeroValue73
 t72 := Tryz.underlying76
 a72 := Tryz.isAgg76
 z72 := Tryz.sizeOf76
 v72 := Tryz.zeroValue76
 t75 := Tryz.underlying143
 a75 := Tryz.isAgg143
 z75 := Tryz.sizeOf143
 v75 := Tryz.zeroValue143
 t76 := Tryz.underlying144
 a76 := Tryz.isAgg144
 z76 := Tryz.sizeOf144
 v76 := Tryz.zeroValue144
 t127 := Tryz.underlying102
 a127 := Tryz.isAgg102
 z127 := Tryz.sizeOf102
 v127 := Tryz.zeroValue102
 t164 := Tryz.underlying214
 a164 := Tryz.isAgg214
 z164 := Tryz.sizeOf214
 v164 := Tryz.zeroValue214 }
theorem Tryz.Builder_Extra_156 : Builder.Extra Tryz.prog Tryz.lays156_ren := {
 sizeBuilder := by kernel_rfl
 liesBuilder := by kernel_rfl
 t5 := Tryz.underlying5
 a5 := Tryz.isAgg5
 z5 := Tryz.sizeOf5
 v5 := Tryz.zeroValue5
 infoByte := by kernel_rfl
 cellsByte := by kernel_rfl
 sizeByte := by kernel_rfl
 neB5 := by decide }
open Go.RowKit in
theorem Tryz.strings_Join_none (a : Option Addr) (c : Nat) (sep : ByteArray) (w : World) :
  Calls Tryz.prog 95 #[.slice a 0 c, .string sep] w fun e w' => e = .returned (.string ⟨#[]⟩) ∧ w' = w := Any.strings_Join_none Tryz.lays156 Tryz.Builder_Extra_156 a c sep w
open Go.RowKit in
theorem Tryz.strings_Join (bk o c : Nat) (xs : List ByteArray) (sep : ByteArray) (w : World) (hcells : ∀ (j : Nat) x, xs[j]? = some x → w.cell? ⟨bk, o + j, none⟩ = some (.string x)) (hbk : bk < w.heap.size) (hN : xs.length ≤ 140737488355328) (hcap : xs.length ≤ c) (hlen : (Lib.join (xs.map (·.data.toList)) sep.data.toList).length ≤ 140737488355328) :
  Calls Tryz.prog 95 #[.slice (some ⟨bk, o, none⟩) xs.length c, .string sep] w fun e w' => e = .returned (.string ⟨(Lib.join (xs.map (·.data.toList)) sep.data.toList).toArray⟩) ∧ Below w.heap.size w w' := Any.strings_Join Tryz.lays156 Tryz.Builder_Extra_156 bk o c xs sep w hcells hbk hN hcap hlen
def Tryz.lays137_ren : Go.Shelf.Ren := ⟨fun | 137 => 46 | 217 => 84 | 266 => 121 | n => n, fun | 9 => 9 | 5 => 5 | 3 => 3 | n => n, fun | n => n⟩
theorem Tryz.lays137 : Go.Proofs.Lays.n137 Tryz.prog Tryz.lays137_ren := {
 mixed := by kernel_rfl
 f137 := Tryz.func46.trans (congrArg some (by kernel_rfl))
 f217 := Tryz.func84.trans (congrArg some (by kernel_rfl))
 f266 := Tryz.func121.trans (congrArg some (by kernel_rfl))
 t3 := Tryz.underlying3
 a3 := Tryz.isAgg3
 z3 := Tryz.sizeOf3
 v3 := Tryz.zeroValue3
 t5 := Tryz.underlying5
 a5 := Tryz.isAgg5
 z5 := Tryz.sizeOf5
 v5 := Tryz.zeroValue5
 t9 := Tryz.underlying9
 a9 := Tryz.isAgg9
 z9 := Tryz.sizeOf9
 v9 := Tryz.zeroValue9 }
open Go.RowKit in
theorem Tryz.strings_IndexByte (s : ByteArray) (c : Int) (w : World) :
  Calls Tryz.prog 46 #[.string s, .int .u8 c] w fun e w' => e = .returned (.int .i64 (Lib.indexByte s.data.toList c.toNat.toUInt8)) ∧ w' = w := Any.strings_IndexByte Tryz.lays137 s c w
def Tryz.lays103_ren : Go.Shelf.Ren := ⟨fun | 103 => 156 | 210 => 186 | 206 => 166 | n => n, fun | 9 => 9 | 4 => 4 | 24 => 190 | 3 => 3 | n => n, fun | n => n⟩
theorem Tryz.lays103 : Go.Proofs.Lays.n103 Tryz.prog Tryz.lays103_ren := {
 mixed := by kernel_rfl
 f103 := Tryz.func156.trans (congrArg some (by kernel_rfl))
 f206 := Tryz.func166.trans (congrArg some (by kernel_rfl))
 f210 := Tryz.func186.trans (congrArg some (by kernel_rfl))
 t3 := Tryz.underlying3
 a3 := Tryz.isAgg3
 z3 := Tryz.sizeOf3
 v3 := Tryz.zeroValue3
 t4 := Tryz.underlying4
 a4 := Tryz.isAgg4
 z4 := Tryz.sizeOf4
 v4 := Tryz.zeroValue4
 t9 := Tryz.underlying9
 a9 := Tryz.isAgg9
 z9 := Tryz.sizeOf9
 v9 := Tryz.zeroValue9
 t24 := Tryz.underlying190
 a24 := Tryz.isAgg190
 z24 := Tryz.sizeOf190
 v24 := Tryz.zeroValue190 }
open Go.RowKit in
theorem Tryz.strings_CutPrefix (s p : ByteArray) (w : World) :
  Calls Tryz.prog 156 #[.string s, .string p] w fun e w' => e = .returned (.tuple #[.string ⟨(Lib.trimPrefix s.data.toList p.data.toList).toArray⟩, .bool (Lib.hasPrefix s.data.toList p.data.toList)]) ∧ w' = w := Any.strings_CutPrefix Tryz.lays103 s p w
def Tryz.lays145_ren : Go.Shelf.Ren := ⟨fun | 145 => 157 | 220 => 187 | 219 => 184 | 217 => 84 | 225 => 201 | 224 => 200 | 267 => 214 | 266 => 121 | 314 => 229 | n => n, fun | 9 => 9 | 4 => 4 | 59 => 202 | 3 => 3 | 5 => 5 | 46 => 174 | 146 => 217 | 51 => 216 | n => n, fun | 1 => 0 | n => n⟩
theorem Tryz.lays145 : Go.Proofs.Lays.n145 Tryz.prog Tryz.lays145_ren := {
 mixed := by kernel_rfl
 f145 := Tryz.func157.trans (congrArg some (by kernel_rfl))
 f217 := Tryz.func84.trans (congrArg some (by kernel_rfl))
 f219 := Tryz.func184.trans (congrArg some (by kernel_rfl))
 f220 := Tryz.func187.trans (congrArg some (by kernel_rfl))
 f224 := Tryz.func200.trans (congrArg some (by kernel_rfl))
 f225 := Tryz.func201.trans (congrArg some (by kernel_rfl))
 f266 := Tryz.func121.trans (congrArg some (by kernel_rfl))
 f267 := Tryz.func214.trans (congrArg some (by kernel_rfl))
 f314 := Tryz.func229.trans (congrArg some (by kernel_rfl))
 t3 := Tryz.underlying3
 a3 := Tryz.isAgg3
 z3 := Tryz.sizeOf3
 v3 := Tryz.zeroValue3
 t4 := Tryz.underlying4
 a4 := Tryz.isAgg4
 z4 := Tryz.sizeOf4
 v4 := Tryz.zeroValue4
 t5 := Tryz.underlying5
 a5 := Tryz.isAgg5
 z5 := Tryz.sizeOf5
 v5 := Tryz.zeroValue5
 t9 := Tryz.underlying9
 a9 := Tryz.isAgg9
 z9 := Tryz.sizeOf9
 v9 := Tryz.zeroValue9
 t46 := Tryz.underlying174
 a46 := Tryz.isAgg174
 z46 := Tryz.sizeOf174
 v46 := Tryz.zeroValue174
 t51 := Tryz.underlying216
 a51 := Tryz.isAgg216
 z51 := Tryz.sizeOf216
 v51 := Tryz.zeroValue216
 t59 := Tryz.underlying202
 a59 := Tryz.isAgg202
 z59 := Tryz.sizeOf202
 v59 := Tryz.zeroValue202
 t146 := Tryz.underlying217
 a146 := Tryz.isAgg217
 z146 := Tryz.sizeOf217
 v146 := Tryz.zeroValue217
 g1 := by kernel_rfl }
open Go.RowKit Go.Lib in
theorem Tryz.strings_Cut (s sep : ByteArray) (m : Int) (w : World) (hs : s.size < 4294967281) (hm : w.cell? ⟨0, 0, none⟩ = some (.int .i64 m)) :
  Calls Tryz.prog 157 #[.string s, .string sep] w fun e w' => e = .returned (.tuple #[.string ⟨(Lib.cut s.data.toList sep.data.toList).1.toArray⟩, .string ⟨(Lib.cut s.data.toList sep.data.toList).2.1.toArray⟩, .bool (Lib.cut s.data.toList sep.data.toList).2.2]) ∧ ∃ n, w' = w.drewN n := Any.strings_Cut Tryz.lays145 s sep m w hs hm
def Tryz.lays138_ren : Go.Shelf.Ren := ⟨fun | 138 => 117 | 195 => 152 | 218 => 153 | 143 => 154 | 219 => 184 | 217 => 84 | 225 => 201 | 224 => 200 | 267 => 214 | 266 => 121 | 314 => 229 | n => n, fun | 9 => 9 | 3 => 3 | 4 => 4 | 5 => 5 | 0 => 0 | 46 => 174 | 146 => 217 | 51 => 216 | n => n, fun | 1 => 0 | n => n⟩
theorem Tryz.lays138 : Go.Proofs.Lays.n138 Tryz.prog Tryz.lays138_ren := {
 mixed := by kernel_rfl
 f138 := Tryz.func117.trans (congrArg some (by kernel_rfl))
 f143 := Tryz.func154.trans (congrArg some (by kernel_rfl))
 f195 := Tryz.func152.trans (congrArg some (by kernel_rfl))
 f217 := Tryz.func84.trans (congrArg some (by kernel_rfl))
 f218 := Tryz.func153.trans (congrArg some (by kernel_rfl))
 f219 := Tryz.func184.trans (congrArg some (by kernel_rfl))
 f224 := Tryz.func200.trans (congrArg some (by kernel_rfl))
 f225 := Tryz.func201.trans (congrArg some (by kernel_rfl))
 f266 := Tryz.func121.trans (congrArg some (by kernel_rfl))
 f267 := Tryz.func214.trans (congrArg some (by kernel_rfl))
 f314 := Tryz.func229.trans (congrArg some (by kernel_rfl))
 t0 := Tryz.underlying0
 a0 := Tryz.isAgg0
 z0 := Tryz.sizeOf0
 v0 := Tryz.zeroValue0
 t3 := Tryz.underlying3
 a3 := Tryz.isAgg3
 z3 := Tryz.sizeOf3
 v3 := Tryz.zeroValue3
 t4 := Tryz.underlying4
 a4 := Tryz.isAgg4
 z4 := Tryz.sizeOf4
 v4 := Tryz.zeroValue4
 t5 := Tryz.underlying5
 a5 := Tryz.isAgg5
 z5 := Tryz.sizeOf5
 v5 := Tryz.zeroValue5
 t9 := Tryz.underlying9
 a9 := Tryz.isAgg9
 z9 := Tryz.sizeOf9
 v9 := Tryz.zeroValue9
 t46 := Tryz.underlying174
 a46 := Tryz.isAgg174
 z46 := Tryz.sizeOf174
 v46 := Tryz.zeroValue174
 t51 := Tryz.underlying216
 a51 := Tryz.isAgg216
 z51 := Tryz.sizeOf216
 v51 := Tryz.zeroValue216
 t146 := Tryz.underlying217
 a146 := Tryz.isAgg217
 z146 := Tryz.sizeOf217
 v146 := Tryz.zeroValue217
 g1 := by kernel_rfl }
open Go.RowKit Go.Lib in
theorem Tryz.strings_Count_one (s : ByteArray) (c : UInt8) (w : World) :
  Calls Tryz.prog 117 #[.string s, .string ⟨#[c]⟩] w fun e w' => e = .returned (.int .i64 (Lib.countByte s.data.toList c)) ∧ w' = w := Any.strings_Count_one Tryz.lays138 s c w
def Tryz.lays102_ren : Go.Shelf.Ren := ⟨fun | 102 => 48 | 209 => 87 | 207 => 123 | n => n, fun | 9 => 9 | 4 => 4 | 3 => 3 | n => n, fun | n => n⟩
theorem Tryz.lays102 : Go.Proofs.Lays.n102 Tryz.prog Tryz.lays102_ren := {
 mixed := by kernel_rfl
 f102 := Tryz.func48.trans (congrArg some (by kernel_rfl))
 f207 := Tryz.func123.trans (congrArg some (by kernel_rfl))
 f209 := Tryz.func87.trans (congrArg some (by kernel_rfl))
 t3 := Tryz.underlying3
 a3 := Tryz.isAgg3
 z3 := Tryz.sizeOf3
 v3 := Tryz.zeroValue3
 t4 := Tryz.underlying4
 a4 := Tryz.isAgg4
 z4 := Tryz.sizeOf4
 v4 := Tryz.zeroValue4
 t9 := Tryz.underlying9
 a9 := Tryz.isAgg9
 z9 := Tryz.sizeOf9
 v9 := Tryz.zeroValue9 }
open Go.RowKit Go.Lib in
theorem Tryz.strings_TrimSuffix (s p : ByteArray) (w : World) (hs : s.size ≤ 9223372036854775807) :
  Calls Tryz.prog 48 #[.string s, .string p] w fun e w' => e = .returned (.string ⟨(Lib.trimSuffix s.data.toList p.data.toList).toArray⟩) ∧ w' = w := Any.strings_TrimSuffix Tryz.lays102 s p w hs
def Tryz.lays146_ren : Go.Shelf.Ren := ⟨fun | 146 => 118 | 221 => 155 | 268 => 185 | 138 => 117 | 143 => 154 | 195 => 152 | 197 => 215 | 218 => 153 | 219 => 184 | 260 => 230 | 217 => 84 | 225 => 201 | 224 => 200 | 267 => 214 | 266 => 121 | 314 => 229 | n => n, fun | 9 => 9 | 31 => 22 | 3 => 3 | 4 => 4 | 0 => 0 | 105 => 255 | 21 => 21 | 5 => 5 | 46 => 174 | 119 => 271 | 139 => 274 | 138 => 273 | 146 => 217 | 51 => 216 | n => n, fun | 1 => 0 | 3 => 5 | 4 => 6 | n => n⟩
theorem Tryz.lays146 : Go.Proofs.Lays.n146 Tryz.prog Tryz.lays146_ren := {
 mixed := by kernel_rfl
 f138 := Tryz.func117.trans (congrArg some (by kernel_rfl))
 f143 := Tryz.func154.trans (congrArg some (by kernel_rfl))
 f146 := Tryz.func118.trans (congrArg some (by kernel_rfl))
 f195 := Tryz.func152.trans (congrArg some (by kernel_rfl))
 f197 := Tryz.func215.trans (congrArg some (by kernel_rfl))
 f217 := Tryz.func84.trans (congrArg some (by kernel_rfl))
 f218 := Tryz.func153.trans (congrArg some (by kernel_rfl))
 f219 := Tryz.func184.trans (congrArg some (by kernel_rfl))
 f221 := Tryz.func155.trans (congrArg some (by kernel_rfl))
 f224 := Tryz.func200.trans (congrArg some (by kernel_rfl))
 f225 := Tryz.func201.trans (congrArg some (by kernel_rfl))
 f260 := Tryz.func230.trans (congrArg some (by kernel_rfl))
 f266 := Tryz.func121.trans (congrArg some (by kernel_rfl))
 f267 := Tryz.func214.trans (congrArg some (by kernel_rfl))
 f268 := Tryz.func185.trans (congrArg some (by kernel_rfl))
 f314 := Tryz.func229.trans (congrArg some (by kernel_rfl))
 t0 := Tryz.underlying0
 a0 := Tryz.isAgg0
 z0 := Tryz.sizeOf0
 v0 := Tryz.zeroValue0
 t3 := Tryz.underlying3
 a3 := Tryz.isAgg3
 z3 := Tryz.sizeOf3
 v3 := Tryz.zeroValue3
 t4 := Tryz.underlying4
 a4 := Tryz.isAgg4
 z4 := Tryz.sizeOf4
 v4 := Tryz.zeroValue4
 t5 := Tryz.underlying5
 a5 := Tryz.isAgg5
 z5 := Tryz.sizeOf5
 v5 := Tryz.zeroValue5
 t9 := Tryz.underlying9
 a9 := Tryz.isAgg9
 z9 := Tryz.sizeOf9
 v9 := Tryz.zeroValue9
 t21 := Tryz.underlying21
 a21 := Tryz.isAgg21
 z21 := Tryz.sizeOf21
 v21 := Tryz.zeroValue21
 t31 := Tryz.underlying22
 a31 := Tryz.isAgg22
 z31 := Tryz.sizeOf22
 v31 := Tryz.zeroValue22
 t46 := Tryz.underlying174
 a46 := Tryz.isAgg174
 z46 := Tryz.sizeOf174
 v46 := Tryz.zeroValue174
 t51 := Tryz.underlying216
 a51 := Tryz.isAgg216
 z51 := Tryz.sizeOf216
 v51 := Tryz.zeroValue216
 t105 := Tryz.underlying255
 a105 := Tryz.isAgg255
 z105 := Tryz.sizeOf255
 v105 := Tryz.zeroValue255
 t119 := Tryz.underlying271
 a119 := Tryz.isAgg271
 z119 := Tryz.sizeOf271
 t138 := Tryz.underlying273
 a138 := Tryz.isAgg273
 z138 := Tryz.sizeOf273
 v138 := Tryz.zeroValue273
 t139 := Tryz.underlying274
 a139 := Tryz.isAgg274
 z139 := Tryz.sizeOf274
 v139 := Tryz.zeroValue274
 t146 := Tryz.underlying217
 a146 := Tryz.isAgg217
 z146 := Tryz.sizeOf217
 v146 := Tryz.zeroValue217
 g1 := by kernel_rfl
 g3 := by kernel_rfl
 g4 := by kernel_rfl }
open Go.RowKit Go.Lib in
theorem Tryz.strings_Split (s sep : ByteArray) (m : Int) (w : World) (hs : s.size < 4294967281) (hm : w.cell? ⟨0, 0, none⟩ = some (.int .i64 m)) (h1 : 1 ≤ sep.size) :
  Calls Tryz.prog 118 #[.string s, .string sep] w fun e w' =>
   e = .returned (.slice (some ⟨w.heap.size, 0, none⟩) (Lib.countB s sep + 1) (Lib.countB s sep + 1)) ∧ w' = w.alloc (.cells ((Lib.splitB sep 0 (Lib.countB s sep) s).map Value.string).toArray 9) := Any.strings_Split Tryz.lays146 (by kernel_rfl) s sep m w hs hm h1
end Go.Proofs
namespace Go.Proofs.YtdelihhbmagphaaGreatDoor
open Go.RowKit
theorem heap_at {Y : World} {D : Nat} (hD : Y.heap.size = D) (cs : Array Value) (t : TypeId) : (Y.alloc (.cells cs t)).heap[D]? = some (.cells cs t (0, 0)) := by subst hD; exact heap_alloc_new Y _
end Go.Proofs.YtdelihhbmagphaaGreatDoor
namespace Go.Proofs.YtdelihhbmagphaaGreatDoor
open Go.RowKit
theorem right_formed {cs : List CM} (h : rightB cs = true) : ∀ c ∈ cs, formedB c = true := by
 have key : ∀ (l : List CM) (v : Nat) (r : Nat), runB l v = some r → ∀ c ∈ l, formedB c = true := by
  intro l
  induction l with
  | nil => intro _ _ _ c hc; cases hc
  | cons x r ih =>
   intro v k h c hc
   unfold runB at h
   split at h
   ·rename_i hx
    rcases List.mem_cons.1 hc with rfl | hc
    ·exact hx.1
    ·exact ih _ _ h c hc
   ·cases h
 unfold rightB at h
 simp at h
 exact key cs 0 1 h.2
end Go.Proofs.YtdelihhbmagphaaGreatDoor
namespace Go.Proofs.YtdelihhbmagphaaGreatDoor
open Go.RowKit
def ML (w : World) : Prop := ∃ m, w.cell? ⟨0, 0, none⟩ = some (.int .i64 m)
theorem ML.below {w w' : World} (h : ML w) (hb : Below w.heap.size w w') : ML w' := by
 obtain ⟨m, h⟩ := h
 exact ⟨m, (hb.cell (cell_lt h)).trans h⟩
theorem parse_names (s : List UInt8) : Names (parseP s).1 ∧ (parseP s).1.length ≤ 32 := by
 by_cases h : (parseP s).2.2 = 0
 ·obtain ⟨_, t, h1, h2, h3, _⟩ := parse_sound h
  rw [h2]
  refine ⟨fun c hc => ?_, h3⟩
  have := formed_name (right_formed (tree_right h1 h3) c hc)
  omega
 ·rw [parse_none h]
  exact ⟨(fun c hc => by cases hc), by simp⟩
theorem own_rdi {w : World} {B : Nat} {v : Value} {cs : List CM} (h : w.ownsRow B 96 3 v cs.length (flat cs)) : RdI w v cs := by
 rcases own_form h with ⟨rfl, h0⟩ | ⟨g, cap, rfl, _⟩
 ·exact Or.inl ⟨rfl, List.length_eq_zero_iff.1 h0⟩
 ·exact Or.inr ⟨_, _, rfl, own_rd h⟩
theorem below_drewN {B : Nat} {w w' : World} (h : Below B w w') (n : Nat) : Below B w (w'.drewN n) := ⟨h.os, h.tape, h.output, h.size, h.block⟩
theorem cut_len (l : List UInt8) : (Lib.cut l [61]).1.length ≤ l.length ∧ (Lib.cut l [61]).2.1.length ≤ l.length := by
 unfold Lib.cut
 split
 ·simp only [List.length_take, List.length_drop]; omega
 ·simp
structure ActO (B : Nat) (w : World) (p : AP) : Prop where
 own : w.ownsRow B 96 3 p.2 p.1.ex.length (flat p.1.ex)
 len : p.1.ex.length * 32 ≤ 140737488355328
 names : Names p.1.ex
 name : p.1.nm.length ≤ 140737488355328
theorem ActO.rd {B : Nat} {w : World} {p : AP} (h : ActO B w p) : ActR w p := ⟨own_rdi h.own, h.len, h.names, h.name⟩
theorem own_lower {w : World} {B B' : Nat} {e : TypeId} {size n : Nat} {v : Value} {xs : List Value} (h : w.ownsRow B e size v n xs) (hb : B' ≤ B) : w.ownsRow B' e size v n xs := by
 obtain ⟨h1, h2⟩ := h
 refine ⟨h1, ?_⟩
 rcases h2 with h2 | ⟨g, cap, cur, h3, h4, h5⟩
 ·exact Or.inl h2
 ·exact Or.inr ⟨g, cap, cur, h3, by omega, h5⟩
def ReadPost (a : AM) (w : World) (e : Ending) (w' : World) : Prop := ∃ v, e = .returned (.agg #[.int .i64 a.kd, bstr a.nm, v]) ∧ ActO w.heap.size w' (a, v) ∧ Below w.heap.size w w'
theorem ReadPost.of {a b : AM} {w w' : World} {v : Value} {N : ByteArray} {k : Int} (hab : a = b) (hk : k = b.kd) (hN : N.data.toList = b.nm) (hA : ActO w.heap.size w' (b, v)) (hb : Below w.heap.size w w') : ReadPost a w (.returned (.agg #[.int .i64 k, .string N, v])) w' := by
 subst hab; subst hk
 refine ⟨v, ?_, hA, hb⟩
 rw [← hN, bstr_of]
set_option maxRecDepth 100000 in
set_option maxHeartbeats 8000000 in
theorem aread_any (s : ByteArray) (w : World) (hs : s.size ≤ 6000) (hO : Ops w) (hM : ML w) :
  Calls Tryz.prog 119 #[.string s] w (ReadPost (readA s.data.toList) w) := by
 have hsl : s.data.toList.length = s.size := (Lib.size_eq s).symm
 have HB0 : Hid (Below w.heap.size w (w.alloc (.cells #[.int .i64 0, .string ⟨#[]⟩, .slice none 0 0] 94))) := (Below.refl _ _).alloc (Nat.le_refl _) _
 have HD0 : Hid ((w.alloc (.cells #[.int .i64 0, .string ⟨#[]⟩, .slice none 0 0] 94)).heap[w.heap.size]? = some (.cells #[.int .i64 0, .string ⟨#[]⟩, .slice none 0 0] 94 (0, 0))) := heap_at rfl _ _
 have H1 := Lib.hid (Tryz.strings_CutPrefix s ⟨#[114, 97, 105, 115, 101, 58]⟩)
 have H2 := Lib.hid (Tryz.strings_CutPrefix s ⟨#[115, 101, 110, 100, 58]⟩)
 by_cases hp : Lib.hasPrefix s.data.toList wRaise = true
 ·have hrd : readA s.data.toList = ⟨2, s.data.toList.drop 6, []⟩ := if_pos hp
  have ht : Lib.trimPrefix s.data.toList wRaise = s.data.toList.drop 6 := by unfold Lib.trimPrefix; rw [if_pos hp]; rfl
  obtain ⟨X, hX⟩ : ∃ X : ByteArray, (⟨(s.data.toList.drop 6).toArray⟩ : ByteArray) = X := ⟨_, rfl⟩
  have hXl : X.data.toList = s.data.toList.drop 6 := by rw [← hX]
  have hXs : X.size ≤ 6000 := by rw [Lib.size_eq, hXl, List.length_drop]; omega
  rw [← hXl] at hrd
  have HM1 : Hid (∀ W, Calls Tryz.prog 156 #[.string s, .string ⟨#[114, 97, 105, 115, 101, 58]⟩] W fun e w' => e = .returned (.tuple #[.string X, .bool true]) ∧ w' = W) := fun W => (H1.out W).mono (by rintro e w' ⟨he, hw⟩; exact ⟨by rw [he, ← hX]; rw [show Lib.hasPrefix s.data.toList (ByteArray.mk #[114, 97, 105, 115, 101, 58]).data.toList = true from hp, show Lib.trimPrefix s.data.toList (ByteArray.mk #[114, 97, 105, 115, 101, 58]).data.toList = s.data.toList.drop 6 from ht], hw⟩)
  have HCL : Hid (∀ W, Calls Tryz.prog 86 #[.string X] W fun e w' => e = .returned (.string X) ∧ Below W.heap.size W w') := fun W => clone_any X W (by omega)
  have HRD := Lib.hid hrd
  have hXn : X.data.toList.length ≤ 140737488355328 := by rw [← Lib.size_eq]; omega
  have HXN := Lib.hid hXn
  clear hX hXl hXs hrd hO hM hsl hXn ht H1 H2 hp
  generalize readA s.data.toList = rd at *
  go_enter Tryz.func119, Tryz.ntmps119
  go_wp2_with fail
  refine (HM1.out _).mono ?_
  rintro e w1 ⟨rfl, rfl⟩
  go_wp2_with fail
  refine (HCL.out _).mono ?_
  rintro e w3 ⟨rfl, hb3⟩
  have HD3 := Lib.hid ((hb3.block _ (lt_of_block HD0.out)).trans HD0.out)
  have HB3 := Lib.hid (HB0.out.trans (hb3.mono HB0.out.size))
  clear hb3
  obtain ⟨c0, c1, c2, f0, f1, f2⟩ := at3 HD3.out
  go_wp2
  obtain ⟨⟨r0, r1, r2⟩, hbl⟩ := fin3 HD3.out (Nat.le_refl _) HB3.out (.int .i64 2) (.string X) (.slice none 0 0)
  exact bodyPost_ret (v := .agg #[.int .i64 2, .string X, .slice none 0 0]) (by simp [results, Tryz.results119, go_sem, r0, r1, r2]) rfl (ReadPost.of HRD.out rfl rfl ⟨World.ownsRow_nil _ _ _ _, by simp, (fun c hc => by cases hc), HXN.out⟩ hbl)
 ·have hp' := (Bool.not_eq_true _).mp hp
  by_cases hq : Lib.hasPrefix s.data.toList wSend = true
  ·have hrd : readA s.data.toList = ⟨3, s.data.toList.drop 5, []⟩ := by unfold readA; rw [if_neg hp, if_pos hq]
   have ht : Lib.trimPrefix s.data.toList wSend = s.data.toList.drop 5 := by unfold Lib.trimPrefix; rw [if_pos hq]; rfl
   obtain ⟨X, hX⟩ : ∃ X : ByteArray, (⟨(s.data.toList.drop 5).toArray⟩ : ByteArray) = X := ⟨_, rfl⟩
   have hXl : X.data.toList = s.data.toList.drop 5 := by rw [← hX]
   have hXs : X.size ≤ 6000 := by rw [Lib.size_eq, hXl, List.length_drop]; omega
   rw [← hXl] at hrd
   have HM1 : Hid (∀ W, Calls Tryz.prog 156 #[.string s, .string ⟨#[115, 101, 110, 100, 58]⟩] W fun e w' => e = .returned (.tuple #[.string X, .bool true]) ∧ w' = W) := fun W => (H2.out W).mono (by rintro e w' ⟨he, hw⟩; exact ⟨by rw [he, ← hX]; rw [show Lib.hasPrefix s.data.toList (ByteArray.mk #[115, 101, 110, 100, 58]).data.toList = true from hq, show Lib.trimPrefix s.data.toList (ByteArray.mk #[115, 101, 110, 100, 58]).data.toList = s.data.toList.drop 5 from ht], hw⟩)
   have HM0 : Hid (∀ W, Calls Tryz.prog 156 #[.string s, .string ⟨#[114, 97, 105, 115, 101, 58]⟩] W fun e w' => ∃ x, e = .returned (.tuple #[.string x, .bool false]) ∧ w' = W) := fun W => (H1.out W).mono (by rintro e w' ⟨he, hw⟩; exact ⟨_, by rw [he]; rw [show Lib.hasPrefix s.data.toList (ByteArray.mk #[114, 97, 105, 115, 101, 58]).data.toList = false from hp'], hw⟩)
   have HCL : Hid (∀ W, Calls Tryz.prog 86 #[.string X] W fun e w' => e = .returned (.string X) ∧ Below W.heap.size W w') := fun W => clone_any X W (by omega)
   have HRD := Lib.hid hrd
   have hXn : X.data.toList.length ≤ 140737488355328 := by rw [← Lib.size_eq]; omega
   have HXN := Lib.hid hXn
   clear hX hXl hXs hrd hO hM hsl hXn ht H1 H2 hp hp' hq
   generalize readA s.data.toList = rd at *
   go_enter Tryz.func119, Tryz.ntmps119
   go_wp2_with fail
   refine (HM0.out _).mono ?_
   rintro e w1 ⟨x1, rfl, rfl⟩
   go_wp2_with fail
   refine (HM1.out _).mono ?_
   rintro e w1 ⟨rfl, rfl⟩
   go_wp2_with fail
   refine (HCL.out _).mono ?_
   rintro e w3 ⟨rfl, hb3⟩
   have HD3 := Lib.hid ((hb3.block _ (lt_of_block HD0.out)).trans HD0.out)
   have HB3 := Lib.hid (HB0.out.trans (hb3.mono HB0.out.size))
   clear hb3
   obtain ⟨c0, c1, c2, f0, f1, f2⟩ := at3 HD3.out
   go_wp2
   obtain ⟨⟨r0, r1, r2⟩, hbl⟩ := fin3 HD3.out (Nat.le_refl _) HB3.out (.int .i64 3) (.string X) (.slice none 0 0)
   exact bodyPost_ret (v := .agg #[.int .i64 3, .string X, .slice none 0 0]) (by simp [results, Tryz.results119, go_sem, r0, r1, r2]) rfl (ReadPost.of HRD.out rfl rfl ⟨World.ownsRow_nil _ _ _ _, by simp, (fun c hc => by cases hc), HXN.out⟩ hbl)
  ·have hq' := (Bool.not_eq_true _).mp hq
   have hrd : readA s.data.toList = ⟨1, (Lib.cut s.data.toList [61]).1, (parseP (Lib.cut s.data.toList [61]).2.1).1⟩ := by unfold readA; rw [if_neg hp, if_neg hq]
   obtain ⟨hc1, hc2⟩ := cut_len s.data.toList
   obtain ⟨m, hm⟩ := hM
   have hm0 : (w.alloc (.cells #[.int .i64 0, .string ⟨#[]⟩, .slice none 0 0] 94)).cell? ⟨0, 0, none⟩ = some (.int .i64 m) := (HB0.out.cell (cell_lt hm)).trans hm
   have H3 := Lib.hid (Tryz.strings_Cut s ⟨#[61]⟩ m (w.alloc (.cells #[.int .i64 0, .string ⟨#[]⟩, .slice none 0 0] 94)) (by omega) hm0)
   obtain ⟨X, hX⟩ : ∃ X : ByteArray, (⟨(Lib.cut s.data.toList [61]).1.toArray⟩ : ByteArray) = X := ⟨_, rfl⟩
   obtain ⟨Y, hY⟩ : ∃ Y : ByteArray, (⟨(Lib.cut s.data.toList [61]).2.1.toArray⟩ : ByteArray) = Y := ⟨_, rfl⟩
   have hXl : X.data.toList = (Lib.cut s.data.toList [61]).1 := by rw [← hX]
   have hYl : Y.data.toList = (Lib.cut s.data.toList [61]).2.1 := by rw [← hY]
   have hXs : X.size ≤ 6000 := by rw [Lib.size_eq, hXl]; omega
   have hYs : Y.size ≤ 6000 := by rw [Lib.size_eq, hYl]; omega
   rw [← hYl, ← hXl] at hrd
   have H3' : Hid (Calls Tryz.prog 157 #[.string s, .string ⟨#[61]⟩] (w.alloc (.cells #[.int .i64 0, .string ⟨#[]⟩, .slice none 0 0] 94)) fun e w' => ∃ b, e = .returned (.tuple #[.string X, .string Y, .bool b]) ∧ ∃ n, w' = (w.alloc (.cells #[.int .i64 0, .string ⟨#[]⟩, .slice none 0 0] 94)).drewN n) := by
    refine H3.out.mono ?_
    rintro e w' ⟨he, hw⟩
    exact ⟨_, by rw [he, ← hX, ← hY], hw⟩
   have HPR : Hid (∀ W, Below w.heap.size w W → Calls Tryz.prog 81 #[.string Y] W (ParsePost Y.data.toList W)) := fun W hb => parse_any Y W (hO.below hb) (by omega)
   have HNM := Lib.hid (parse_names Y.data.toList)
   have HCL : Hid (∀ W, Calls Tryz.prog 86 #[.string X] W fun e w' => e = .returned (.string X) ∧ Below W.heap.size W w') := fun W => clone_any X W (by omega)
   have HRD := Lib.hid hrd
   have hXn : X.data.toList.length ≤ 140737488355328 := by rw [← Lib.size_eq]; omega
   have HXN := Lib.hid hXn
   clear hX hY hXl hYl hXs hYs hrd hc1 hc2 hm hm0 H3 hO hp hq hsl hXn
   generalize readA s.data.toList = rd at *
   have H1' : Hid (∀ W, Calls Tryz.prog 156 #[.string s, .string ⟨#[114, 97, 105, 115, 101, 58]⟩] W fun e w' => ∃ x, e = .returned (.tuple #[.string x, .bool false]) ∧ w' = W) := fun W => (H1.out W).mono (by rintro e w' ⟨he, hw⟩; exact ⟨_, by rw [he]; rw [show Lib.hasPrefix s.data.toList (ByteArray.mk #[114, 97, 105, 115, 101, 58]).data.toList = false from hp'], hw⟩)
   have H2' : Hid (∀ W, Calls Tryz.prog 156 #[.string s, .string ⟨#[115, 101, 110, 100, 58]⟩] W fun e w' => ∃ x, e = .returned (.tuple #[.string x, .bool false]) ∧ w' = W) := fun W => (H2.out W).mono (by rintro e w' ⟨he, hw⟩; exact ⟨_, by rw [he]; rw [show Lib.hasPrefix s.data.toList (ByteArray.mk #[115, 101, 110, 100, 58]).data.toList = false from hq'], hw⟩)
   clear H1 H2 hp' hq'
   go_enter Tryz.func119, Tryz.ntmps119
   go_wp2_with fail
   refine (H1'.out _).mono ?_
   rintro e w1 ⟨x1, rfl, rfl⟩
   go_wp2_with fail
   refine (H2'.out _).mono ?_
   rintro e w1 ⟨x2, rfl, rfl⟩
   go_wp2_with fail
   refine H3'.out.mono ?_
   rintro e w1 ⟨bb, rfl, n, rfl⟩
   have HB1 : Hid (Below w.heap.size w ((w.alloc (.cells #[.int .i64 0, .string ⟨#[]⟩, .slice none 0 0] 94)).drewN n)) := below_drewN HB0.out n
   go_wp2_with fail
   refine (HPR.out _ HB1.out).mono ?_
   rintro e w2 ⟨v, rfl, hown, hb2⟩
   obtain ⟨Av, cv, rfl⟩ := own_slice hown
   have HD2 : Hid (w2.heap[w.heap.size]? = some (.cells #[.int .i64 0, .string ⟨#[]⟩, .slice none 0 0] 94 (0, 0))) := (hb2.block _ (by simp [World.drewN])).trans HD0.out
   have HB2 := Lib.hid (HB1.out.trans (hb2.mono HB1.out.size))
   have HO2 := Lib.hid hown
   have hge : w.heap.size + 1 ≤ ((w.alloc (.cells #[.int .i64 0, .string ⟨#[]⟩, .slice none 0 0] 94)).drewN n).heap.size := by simp [World.drewN]
   have HGE := Lib.hid hge
   clear hb2 hown hge
   go_wp2_with fail
   refine (HCL.out _).mono ?_
   rintro e w3 ⟨rfl, hb3⟩
   have HD3 := Lib.hid ((hb3.block _ (lt_of_block HD2.out)).trans HD2.out)
   have HB3 := Lib.hid (HB2.out.trans (hb3.mono HB2.out.size))
   have HO3 := Lib.hid (own_below HO2.out hb3)
   clear hb3
   obtain ⟨c0, c1, c2, f0, f1, f2⟩ := at3 HD3.out
   go_wp2
   obtain ⟨⟨r0, r1, r2⟩, hbl⟩ := fin3 HD3.out (Nat.le_refl _) HB3.out (.int .i64 1) (.string X) (.slice Av (parseP Y.data.toList).1.length cv)
   have HO4 := HO3.out.kept (Lib.grownBy_setB (Lib.grownBy_setB (Lib.grownBy_setB (World.grownBy.refl w3 (some w.heap.size)) 0 (.int .i64 1)) 1 (.string X)) 2 (.slice Av (parseP Y.data.toList).1.length cv)) (by
    cases hv : Value.ownBlock (.slice Av (parseP Y.data.toList).1.length cv) with
    | none => exact Or.inl rfl
    | some g => exact Or.inr (fun he => by have := (HO3.out.lt g hv).1; have h2 := HGE.out; injection he with he; omega))
   exact bodyPost_ret (v := .agg #[.int .i64 1, .string X, (.slice Av (parseP Y.data.toList).1.length cv)]) (by simp [results, Tryz.results119, go_sem, r0, r1, r2]) rfl (ReadPost.of HRD.out rfl rfl ⟨own_lower HO4 (by have := HGE.out; omega), by have := HNM.out.2; simp only; omega, HNM.out.1, HXN.out⟩ hbl)
end Go.Proofs.YtdelihhbmagphaaGreatDoor
namespace Go.Proofs.YtdelihhbmagphaaGreatDoor
open Go.RowKit Go.ChangeShapes Go.WideShapes Go.ChangeAt
theorem cellsOp : Tryz.prog.cellsOf 198 = 3 := by kernel_rfl
theorem cellsOps : Tryz.prog.cellsOf 224 = 39 := by kernel_rfl
section
variable {H : Type} {enc : TypeId × Value → H} {W : World} {base : Nat} {sp : Nat → Bool} {held : Bool} {fuel : Nat} {cs : List Value}
set_option maxRecDepth 100000 in
theorem op_struct {o st : Int} {b : List UInt8} {q : List MemPlace} (h : DataW.trod enc Tryz.prog W base sp held fuel 198 cs = some (.agg [.lit (.int .i64 o), .lit (.string b), .lit (.int .i64 st)], q)) : cs = [.int .i64 o, .string ⟨b.toArray⟩, .int .i64 st] := by
 obtain ⟨xs, n, rfl, hx, hl, hxl, hf⟩ := DataW.trod_struct Tryz.underlying198 h
 rw [cellsOp] at hl
 match cs, hl with
 | [u0, u1, u2], _ =>
  have e0 : DataW.trod enc Tryz.prog W base sp held n 3 (([u0, u1, u2].drop 0).take (Tryz.prog.cellsOf 3)) = xs[0]? := hf 0 _ rfl
  have e1 : DataW.trod enc Tryz.prog W base sp held n 9 (([u0, u1, u2].drop 1).take (Tryz.prog.cellsOf 9)) = xs[1]? := hf 1 _ rfl
  have e2 : DataW.trod enc Tryz.prog W base sp held n 3 (([u0, u1, u2].drop 2).take (Tryz.prog.cellsOf 3)) = xs[2]? := hf 2 _ rfl
  have hx3 : xs.length = 3 := hxl
  match xs, hx3 with
  | [y0, y1, y2], _ =>
   rw [cellsI] at e0 e2
   rw [cellsS] at e1
   obtain ⟨z0, h0, g0, _⟩ := DataW.trod_int Tryz.underlying3 (show _ = some y0 from e0)
   obtain ⟨z1, h1, g1, _⟩ := DataW.trod_string Tryz.underlying9 (show _ = some y1 from e1)
   obtain ⟨z2, h2, g2, _⟩ := DataW.trod_int Tryz.underlying3 (show _ = some y2 from e2)
   simp at h0 h1 h2
   subst g0; subst g1; subst g2
   simp at hx
   obtain ⟨⟨rfl, rfl, rfl⟩, _⟩ := hx
   rw [h0, h1, h2]
end
set_option maxRecDepth 100000 in
theorem ops_of {W : World} (h : Lib.VarReads Tryz.prog W "quintain/expr.operators" (.agg (tabOps.map fun o => .agg [.lit (.int .i64 o.1), .lit (.string o.2.1), .lit (.int .i64 o.2.2)]))) : Ops W := by
 obtain ⟨g, t, cs, fuel, p, hg, ht, hv, hd⟩ := h
 obtain rfl := Option.some.inj (gOps.symm.trans hg)
 obtain rfl : 224 = t := Option.some.inj ((show (Tryz.prog.globals[1]?).map (·.type) = some 224 by kernel_rfl).symm.trans ht)
 unfold Ops
 rw [hv]
 congr 1
 apply Array.toList_inj.1
 have hlen : cs.toList.length = 39 := by
  cases fuel with
  | zero => simp [DataW.trod] at hd
  | succ fuel =>
   simp only [DataW.trod, Tryz.underlying224] at hd
   split at hd
   ·rename_i hl
    rw [cellsOps] at hl
    simpa using hl
   ·cases hd
 have hrow : ∀ i, i < 13 → (cs.toList.drop (i * 3)).take 3 = opRow (tabAt i) := by
  intro i hi
  obtain ⟨f', d, q, hd1, hd2⟩ := Lib.array_elem Tryz.underlying224 hd i hi
  rw [cellsOp] at hd2
  have hd3 : d = .agg [.lit (.int .i64 (tabAt i).1), .lit (.string (tabAt i).2.1), .lit (.int .i64 (tabAt i).2.2)] := by
   rw [List.getElem?_map, List.getElem?_eq_getElem (by simp [tabOps]; omega)] at hd1
   have := Option.some.inj hd1
   rw [← this]
   unfold tabAt
   rw [List.getD_eq_getElem?_getD, List.getElem?_eq_getElem (by simp [tabOps]; omega)]
   rfl
  rw [hd3] at hd2
  exact op_struct hd2
 apply List.ext_getElem?
 intro j
 by_cases hj : j < 39
 ·have h1 := hrow (j / 3) (by omega)
  obtain ⟨t0, t1, t2⟩ := tab_cells (j / 3) (by omega)
  rw [← Array.getElem?_toList] at t0 t1 t2
  have hc : j = j / 3 * 3 ∨ j = j / 3 * 3 + 1 ∨ j = j / 3 * 3 + 2 := by omega
  have get : ∀ r, r < 3 → cs.toList[j / 3 * 3 + r]? = (opRow (tabAt (j / 3)))[r]? := by
   intro r hr
   rw [← h1, List.getElem?_take, if_pos hr, List.getElem?_drop]
  rcases hc with e | e | e
  ·rw [e]; exact (get 0 (by omega)).trans (by rw [t0]; rfl)
  ·rw [e]; exact (get 1 (by omega)).trans (by rw [t1]; rfl)
  ·rw [e]; exact (get 2 (by omega)).trans (by rw [t2]; rfl)
 ·rw [List.getElem?_eq_none (by omega), List.getElem?_eq_none (by simp [opsCells, tabOps, opRow]; omega)]
end Go.Proofs.YtdelihhbmagphaaGreatDoor
