/- Own texts, joined: Eb, Ec, Ed, Shelf, Ef. -/
import Derived.Test.YtdelihhbmagphaaGreatDoorR2
import Derived.Laws.OwnMore
import Derived.OneCell
import Derived.Deep.Onto
import Derived.Deep.QuietTactic
import Derived.BigQuiet
import Derived.Deep.Draws
import Derived.RegionTactic
import Derived.Deep.RegionLaw
import Derived.Laws.Rows
import Derived.Deep.RegionHeld3
import Derived.Deep.AppendLies
import Derived.StillTailTactics
import Derived.Shelf.Strings.Builder1
import Derived.Shelf.Strings.Builder2
import Derived.Shelf.Strings.OnBuilder
import Derived.Shelf.Small.Utf8
import Derived.Shelf.Small.Strs
import Derived.Shelf.Small.Wraps
import Derived.Shelf.Strings.BuilderF
import Derived.Shelf.Strings.BuilderK
import Derived.Shelf.Utf8.RuneCount
import Derived.Shelf.Strings.Builder2Cap
import Derived.Shelf.Strconv.Itoa0
import Derived.Shelf.Strconv.Itoa1
import Derived.Shelf.LaysM
import Derived.Shelf.Strconv.Itoa2
import Derived.Shelf.Strconv.Itoa3
import Derived.Shelf.Strconv.Itoa4
import Derived.Shelf.Strconv.ParseIntEmpty
import Derived.Shelf.Strconv.Clone
import Derived.Shelf.Strconv.SyntaxError
import Derived.Shelf.LaysC
import Derived.Shelf.Strconv.ToError
import Derived.Shelf.Strconv.Lower
import Derived.Shelf.Strconv.ParseUint10
import Derived.Shelf.Strconv.ParseUint10Empty
import Derived.Shelf.Strconv.ParseUint10Any
import Derived.Shelf.Strconv.ParseInt10
import Derived.Shelf.Strconv.RangeError
import Derived.Shelf.Strconv.ToErrorRange
import Derived.Shelf.Strconv.ParseUintEmpty
import Derived.Shelf.Strconv.ParseUint10b64
import Derived.Shelf.Strconv.ParseUint10b32
import Derived.Shelf.Strconv.ParseUint10b16
import Derived.Shelf.Strconv.ParseUint10b8
import Derived.Shelf.Strconv.ParseUint10At
import Derived.Shelf.Strconv.ParseInt10At64
import Derived.Shelf.Strconv.ParseInt10At32
import Derived.Shelf.Strconv.ParseInt10At16
import Derived.Shelf.Strconv.ParseInt10At8
import Derived.Shelf.Strconv.ParseInt10All
import Derived.Shelf.Strconv.ParseIntPublic10
import Derived.Shelf.Strconv.ErrVarParseInt
import Derived.Shelf.Strings.Search1
import Derived.Shelf.Strings.Search2
import Derived.Shelf.Strings.Search3
import Derived.Shelf.Strings.Cut
import Derived.Shelf.Strings.Count
import Derived.Shelf.Strings.Shaped
import Derived.Shelf.Strings.Prefix
import Derived.Shelf.Strings.Split
import Derived.Shelf.Strings.SplitShaped
import Derived.Shelf.Unicode.Decode
import Derived.Shelf.Strings.Runes
import Derived.Shelf.Strings.RuneCount
import Derived.Shelf.Strings.IndexAny
import Derived.Shelf.Strings.AsciiSet
import Derived.Shelf.Strings.IndexAnyAll
import Derived.Shelf.Strings.Explode
import Derived.Shelf.Bits.Mul64
import Derived.Shelf.Strings.Repeat
import Derived.Shelf.Strings.BuilderCap
import Derived.Shelf.Slices.Equal
import Derived.Shelf.Slices.Empties2
import Derived.Test.YtdelihhbmagphaaGreatDoorProg
namespace Go.Proofs.YtdelihhbmagphaaGreatDoor
open Go.RowKit
def bstr (l : List UInt8) : Value := .string ⟨l.toArray⟩
theorem bstr_of (s : ByteArray) : bstr s.data.toList = .string s := rfl
def cellV (c : CM) : List Value := [.int .i64 c.op, .int .i64 c.a, bstr c.nm]
def flat (cs : List CM) : List Value := cs.flatMap cellV
theorem flat_append (a b : List CM) : flat (a ++ b) = flat a ++ flat b := by simp [flat]
theorem flat_one (c : CM) : flat [c] = cellV c := by simp [flat]
theorem flat_at {cs : List CM} {i : Nat} (h : i < cs.length) : (flat cs)[i * 3]? = some (.int .i64 cs[i].op) ∧ (flat cs)[i * 3 + 1]? = some (.int .i64 cs[i].a) ∧ (flat cs)[i * 3 + 2]? = some (bstr cs[i].nm) := by
 induction cs generalizing i with
 | nil => simp at h
 | cons c r ih =>
  have e : flat (c :: r) = .int .i64 c.op :: .int .i64 c.a :: bstr c.nm :: flat r := rfl
  rw [e]
  cases i with
  | zero => exact ⟨rfl, rfl, rfl⟩
  | succ j =>
   have := ih (i := j) (by simpa using h)
   have h1 : (j + 1) * 3 = j * 3 + 3 := by omega
   rw [h1]
   exact this
theorem Tryz.infoCell : (Tryz.prog.info? 96).map (fun i => (i.zero, i.size, i.bytes)) = some (some (.agg #[.int .i64 0, .int .i64 0, .string ByteArray.empty]), 3, 32) := by kernel_rfl
structure Keeps (g : Nat) (wa w : World) : Prop where
 size : wa.heap.size ≤ w.heap.size
 same : ∀ b, b < wa.heap.size → b ≠ g → (∀ cs fr, wa.heap[b]? ≠ some (.cells cs 96 fr)) → w.heap[b]? = wa.heap[b]?
theorem Keeps.refl (g : Nat) (w : World) : Keeps g w w := ⟨Nat.le_refl _, fun _ _ _ _ => rfl⟩
theorem Keeps.trans {g : Nat} {a b c : World} (h : Keeps g a b) (k : Keeps g b c) : Keeps g a c :=
 ⟨Nat.le_trans h.size k.size, fun i hi hg hn => by
  have e := h.same i hi hg hn
  rw [k.same i (Nat.lt_of_lt_of_le hi h.size) hg (fun cs fr => by rw [e]; exact hn cs fr), e]⟩
theorem Keeps.below {g : Nat} {a b c : World} (h : Keeps g a b) (k : Below b.heap.size b c) : Keeps g a c :=
 h.trans ⟨k.size, fun i hi _ _ => k.block i hi⟩
theorem Keeps.setCell {g : Nat} {a b : World} (h : Keeps g a b) (j : Nat) (u : Value) : Keeps g a (b.setCell ⟨g, j, none⟩ u) :=
 h.trans ⟨by simp, fun i _ hg _ => heap_setCell_other b _ i u hg⟩
theorem Keeps.grown {g : Nat} {a b c : World} {base n : Nat} {v : Value} {xs : List Value} (h : Keeps g a b) (hown : b.ownsRow base 96 3 v n xs) (k : b.grownBy c v.ownBlock) : Keeps g a c :=
 h.trans ⟨k.size, fun i hi _ hn => k.block i hi (fun e => by
  rcases hown.2 with ⟨rfl, _⟩ | ⟨g', cap, cur, rfl, _, hh, _⟩
  ·simp [Value.ownBlock] at e
  ·have e : i = g' := by simpa [Value.ownBlock] using e
   subst e
   exact hn _ _ hh)⟩
structure St (w0 wa : World) (g : Nat) (s : ByteArray) (p : Nat) (cs : List CM) (w : World) : Prop where
 box : ∃ v, w.heap[g]? = some (.cells #[.string s, .int .i64 p, v] 163 (0, 0)) ∧ w.ownsRow w0.heap.size 96 3 v cs.length (flat cs)
 ge : w0.heap.size ≤ g
 below : Below w0.heap.size w0 w
 keep : Keeps g wa w
section
variable {w0 wa w w1 w2 : World} {g : Nat} {s : ByteArray} {p p' : Nat} {cs cs' : List CM}
theorem grown_of_below {w w' : World} (h : Below w.heap.size w w') (row : Option Nat) : w.grownBy w' row := ⟨h.os, h.tape, h.output, h.size, fun k hk _ => h.block k hk⟩
theorem own_below {base : Nat} {e : TypeId} {size n : Nat} {v : Value} {xs : List Value} (h : w.ownsRow base e size v n xs) (hb : Below w.heap.size w w1) : w1.ownsRow base e size v n xs :=
 h.kept (grown_of_below hb none) (by cases hv : v.ownBlock with
  | none => exact Or.inl rfl
  | some k => exact Or.inr (by simp))
theorem St.lt (h : St w0 wa g s p cs w) : g < w.heap.size := by
 obtain ⟨v, hb, _⟩ := h.box
 exact lt_of_block hb
theorem St.size (h : St w0 wa g s p cs w) : w0.heap.size ≤ w.heap.size := h.below.size
theorem St.to_below (h : St w0 wa g s p cs w) (hb : Below w.heap.size w w1) : St w0 wa g s p cs w1 := by
 obtain ⟨v, hbox, hown⟩ := h.box
 exact ⟨⟨v, (hb.block g h.lt).trans hbox, own_below hown hb⟩, h.ge, h.below.trans (hb.mono h.size), h.keep.below hb⟩
theorem St.drewN (h : St w0 wa g s p cs w) (n : Nat) : St w0 wa g s p cs (w.drewN n) := by
 obtain ⟨v, hbox, hown⟩ := h.box
 exact ⟨⟨v, hbox, hown⟩, h.ge, ⟨h.below.os, h.below.tape, h.below.output, h.below.size, h.below.block⟩, ⟨h.keep.size, h.keep.same⟩⟩
theorem St.alloc (h : St w0 wa g s p cs w) (o : Obj) : St w0 wa g s p cs (w.alloc o) := h.to_below ((Below.refl _ _).alloc (Nat.le_refl _) o)
theorem own_ne {v : Value} {n : Nat} {xs : List Value} {o : Array Value} (hown : w.ownsRow w0.heap.size 96 3 v n xs) (hbox : w.heap[g]? = some (.cells o 163 (0, 0))) : v.ownBlock ≠ some g := by
 rcases hown.2 with ⟨rfl, _⟩ | ⟨g', cap, cur, rfl, _, hh, _⟩
 ·simp [Value.ownBlock]
 ·intro e
  have e : g' = g := by simpa [Value.ownBlock] using e
  subst e
  rw [hbox] at hh
  have := Option.some.inj hh
  simp at this
theorem St.setAt (h : St w0 wa g s p cs w) (q : Int) (hq : q = (p' : Int)) : St w0 wa g s p' cs (w.setCell ⟨g, 1, none⟩ (.int .i64 q)) := by
 subst hq
 obtain ⟨v, hbox, hown⟩ := h.box
 refine ⟨⟨v, ?_, ownsRow_setCell_other hown (own_ne hown hbox) _⟩, h.ge, h.below.setCell h.ge _, h.keep.setCell _ _⟩
 rw [heap_setCell_same w g 1 _ _ _ hbox]; rfl
theorem St.push {v v' : Value} {xs : List Value} (h : St w0 wa g s p cs w) (hbox : w.heap[g]? = some (.cells #[.string s, .int .i64 p, v] 163 (0, 0))) (hown0 : w.ownsRow w0.heap.size 96 3 v cs.length xs)
  (hb : Below w.heap.size w w1) (hown : w2.ownsRow w0.heap.size 96 3 v' cs'.length (flat cs')) (hg : w1.grownBy w2 v.ownBlock) : St w0 wa g s p cs' (w2.setCell ⟨g, 2, none⟩ v') := by
 have h1 := h.to_below hb
 have hne := own_ne hown0 hbox
 have hbox1 : w1.heap[g]? = some (.cells #[.string s, .int .i64 p, v] 163 (0, 0)) := (hb.block g h.lt).trans hbox
 have hbox2 : w2.heap[g]? = some (.cells #[.string s, .int .i64 p, v] 163 (0, 0)) := (hg.block g h1.lt (fun e => hne e.symm)).trans hbox1
 have hown1 := own_below hown0 hb
 refine ⟨⟨v', ?_, ownsRow_setCell_other hown (own_ne hown hbox2) _⟩, h.ge, ?_, (h1.keep.grown hown1 hg).setCell _ _⟩
 ·rw [heap_setCell_same w2 g 2 _ _ _ hbox2]; rfl
 ·exact (h1.below.grown hg h1.size (fun k hk => (hown0.lt k hk).1)).setCell h.ge _
theorem St.re {wb : World} (h : St w0 wb g s p cs w) (hk : Keeps g wa wb) : St w0 wa g s p cs w := ⟨h.box, h.ge, h.below, hk.trans h.keep⟩
theorem St.here (h : St w0 wa g s p cs w) : St w0 w g s p cs w := ⟨h.box, h.ge, h.below, Keeps.refl _ _⟩
theorem St.at_ (h : St w0 wa g s p cs w) : ∃ v, (w.cell? ⟨g, 0, none⟩ = some (.string s) ∧ w.cell? ⟨g, 1, none⟩ = some (.int .i64 p) ∧ w.cell? ⟨g, 2, none⟩ = some v ∧ w.frozen? ⟨g, 1, none⟩ = false ∧ w.frozen? ⟨g, 2, none⟩ = false) ∧
  w.heap[g]? = some (.cells #[.string s, .int .i64 p, v] 163 (0, 0)) ∧ w.ownsRow w0.heap.size 96 3 v cs.length (flat cs) := by
 obtain ⟨v, hbox, hown⟩ := h.box
 exact ⟨v, ⟨(cell_of_row w g 0 _ _ _ hbox).trans rfl, (cell_of_row w g 1 _ _ _ hbox).trans rfl, (cell_of_row w g 2 _ _ _ hbox).trans rfl, frozen_of_row w g 1 _ _ hbox, frozen_of_row w g 2 _ _ hbox⟩, hbox, hown⟩
end
def rp (g : Nat) : Value := .pointer (some ⟨g, 0, none⟩)
theorem lst_at (s : ByteArray) (p : Nat) (h : p < s.size) : nx s.data.toList p = s[p] := by
 have hl : s.data.toList.length = s.size := (Lib.size_eq s).symm
 rw [nx_at (by omega)]; simp; rfl
theorem next_any {w0 wa w : World} {g : Nat} {s : ByteArray} {p : Nat} {cs : List CM} (h : St w0 wa g s p cs w) (hp : p ≤ s.size) :
  Calls Tryz.prog 182 #[rp g] w fun e w' => e = .returned (.int .u8 (nx s.data.toList p).toNat) ∧ ∃ n, w' = w.drewN n := by
 have hl : s.data.toList.length = s.size := (Lib.size_eq s).symm
 obtain ⟨v, ⟨c0, c1, c2, f1, f2⟩, hbox, hown⟩ := h.at_
 clear hbox hown h
 unfold rp
 by_cases he : p = s.size
 ·subst he
  rw [nx_end (by omega)]
  go_enter Tryz.func182, Tryz.ntmps182
  go_wp2
  go_quiet (fail)
  go_wp2
  go_ret
  exact ⟨rfl, nq, rfl⟩
 ·have hlt : p < s.size := by omega
  rw [lst_at s p hlt]
  have hne : ((p : Int) == (s.size : Int)) = false := beq_eq_false_iff_ne.2 (by omega)
  go_enter Tryz.func182, Tryz.ntmps182
  go_wp2
  go_quiet (fail)
  go_wp2
  go_quiet (fail)
  go_wp2
  go_ret
  exact ⟨rfl, _, World.drewN_drewN _ _ _⟩
end Go.Proofs.YtdelihhbmagphaaGreatDoor
namespace Go.Proofs.YtdelihhbmagphaaGreatDoor
open Go.RowKit
theorem one_wide (w1 : World) (x y z : Value) (t : TypeId) : ∀ (j : Nat) (u : Value), [x, y, z][j]? = some u → (w1.alloc (.cells #[x, y, z] t)).cell? ((⟨w1.heap.size, 0, none⟩ : Addr).add j) = some u := by
 intro j u hj
 match j, hj with
 | 0, hj => simp at hj; subst hj; simp [Addr.add]
 | 1, hj => simp at hj; subst hj; simp [Addr.add]
 | 2, hj => simp at hj; subst hj; simp [Addr.add]
 | j + 3, hj => simp at hj
theorem one_vals (c : CM) : ∀ u ∈ cellV c, u.oneCell' = true := by
 intro u hu
 simp [cellV] at hu
 rcases hu with rfl | rfl | rfl <;> rfl
theorem cell_row {w : World} {b : Nat} {c : CM} {t : TypeId} (h : w.heap[b]? = some (.cells #[.int .i64 c.op, .int .i64 c.a, bstr c.nm] t (0, 0))) : w.cell? ⟨b, 0, none⟩ = some (.int .i64 c.op) ∧ w.cell? ⟨b, 1, none⟩ = some (.int .i64 c.a) ∧ w.cell? ⟨b, 2, none⟩ = some (bstr c.nm) :=
 ⟨(cell_of_row w b 0 _ _ _ h).trans rfl, (cell_of_row w b 1 _ _ _ h).trans rfl, (cell_of_row w b 2 _ _ _ h).trans rfl⟩
theorem St.moved {w0 wa w : World} {g : Nat} {s : ByteArray} {p : Nat} {cs : List CM} (h : St w0 wa g s p cs w) (q : Int) (p' : Nat) (hq : q = (p' : Int)) (o : Array Value) (t : TypeId) :
  St w0 wa g s p' cs ((w.setCell ⟨g, 1, none⟩ (.int .i64 q)).alloc (.cells o t)) ∧ ((w.setCell ⟨g, 1, none⟩ (.int .i64 q)).alloc (.cells o t)).heap[w.heap.size]? = some (.cells o t (0, 0)) := by
 refine ⟨(h.setAt _ hq).alloc _, ?_⟩
 have := heap_alloc_new (w.setCell ⟨g, 1, none⟩ (.int .i64 q)) (.cells o t)
 simpa using this
set_option maxRecDepth 100000 in
set_option maxHeartbeats 3200000 in
theorem take_any {w0 wa w : World} {g : Nat} {s : ByteArray} {p : Nat} {cs : List CM} (h : St w0 wa g s p cs w) (wd : ByteArray) (c : CM) (hp : p + wd.size ≤ s.size) (hs : s.size ≤ 600) (hc : cs.length ≤ 600) :
  Calls Tryz.prog 211 #[rp g, .string wd, .agg #[.int .i64 c.op, .int .i64 c.a, bstr c.nm]] w fun e w' => e = .returned (.bool true) ∧ St w0 wa g s (p + wd.size) (cs ++ [c]) w' := by
 obtain ⟨HS, HB⟩ := h.moved ((p : Int) + (wd.size : Int)) (p + wd.size) (by omega) #[.int .i64 c.op, .int .i64 c.a, bstr c.nm] 96
 have HSH := Lib.hid HS; have HBH := Lib.hid HB; clear HB
 have hg := h.lt
 obtain ⟨v, ⟨c0, c1, c2, f1, f2⟩, hbox, hown⟩ := h.at_
 have hvb : v.ownBlock ≠ some w.heap.size := fun e => by have := (hown.lt _ e).2; omega
 have HVB := Lib.hid hvb
 have HOWN := Lib.hid ((ownsRow_setCell_other hown (own_ne hown hbox) (a := ⟨g, 1, none⟩) (.int .i64 ((p : Int) + (wd.size : Int)))).alloc (.cells #[.int .i64 c.op, .int .i64 c.a, bstr c.nm] 96))
 have HBX : Hid (((w.setCell ⟨g, 1, none⟩ (.int .i64 ((p : Int) + (wd.size : Int)))).alloc (.cells #[.int .i64 c.op, .int .i64 c.a, bstr c.nm] 96)).heap[g]? = some (.cells #[.string s, .int .i64 ((p : Int) + (wd.size : Int)), v] 163 (0, 0))) := by
  exact (Below.heap_alloc _ _ g (by simpa using hg)).trans ((heap_setCell_same w g 1 _ _ _ hbox).trans rfl)
 obtain ⟨i0, hi0, hz0, hz1, hz2⟩ := info_parts Tryz.infoCell
 have HI := Lib.hid hi0; have HZ0 := Lib.hid hz0; have HZ1 := Lib.hid hz1; have HZ2 := Lib.hid hz2
 clear hi0 hz0 hz1 hz2 hbox hown hvb HS
 have hsz : w.heap.size ≠ g := by omega
 unfold rp
 go_enter Tryz.func211, Tryz.ntmps211
 go_wp2
 generalize hW : (w.setCell ⟨g, 1, none⟩ (.int .i64 ((p : Int) + (wd.size : Int)))).alloc (.cells #[.int .i64 c.op, .int .i64 c.a, bstr c.nm] 96) = W at HSH HBH HOWN HBX ⊢
 generalize hb : w.heap.size = b at *
 clear hW h c0 c1 c2 f1 f2
 have hgl := HSH.out.lt
 have hbl := lt_of_block HBH.out
 have hne := own_ne HOWN.out HBX.out
 have hWs := HSH.out.size
 have c2 := (cell_of_row W g 2 _ _ _ HBX.out).trans (show _ = some v from rfl)
 have f2 := frozen_of_row W g 2 _ _ HBX.out
 obtain ⟨b0, b1, b2⟩ := cell_row HBH.out
 have HNE := Lib.hid hne; clear hne
 have kf : (W.alloc (Obj.cells #[.int .i64 c.op, .int .i64 c.a, bstr c.nm] 96)).drew.frozen? ⟨g, 2, none⟩ = false := (World.frozen?_alloc_past _ g 2 hgl).trans f2
 have kc : (W.alloc (Obj.cells #[.int .i64 c.op, .int .i64 c.a, bstr c.nm] 96)).drew.cell? ⟨g, 2, none⟩ = some v := (World.cell?_alloc_lt W _ _ hgl).trans c2
 have KC := Lib.hid kc; have KF := Lib.hid kf; clear kc kf
 go_region_law ((refine step_append_lies _ (by rfl) _ _ _ (by rfl) w0.heap.size 96 i0 _ 3 32 Tryz.underlying69 HI.out HZ0.out HZ1.out HZ2.out rfl (by omega) v cs.length (flat cs) (by rfl) ((HOWN.out.alloc _).drew) ⟨W.heap.size, 0, none⟩ 1 1 (cellV c) (by rfl) (by rfl) (World.news_of_block (cs := #[.int .i64 c.op, .int .i64 c.a, bstr c.nm]) (t := 96) (fr := (0, 0)) (heap_alloc_new W _)) (one_vals c) (by omega) (by unfold maxLen; omega) (by omega) (by simp; omega) (W.heap.size + 1) (by simp) ?_; intro gg cap w1 hown1 hgrow hat hlt; have k2 := (hgrow.cell_far ⟨g, 2, none⟩ (by simp; omega) (Ne.symm HNE.out)).trans KC.out; have kf2 := (hgrow.frozen_far ⟨g, 2, none⟩ (by simp; omega) (Ne.symm HNE.out)).trans KF.out))
 all_goals
  have HH : Hid (St w0 wa g s (p + wd.size) (cs ++ [c]) (w1.setCell ⟨g, 2, none⟩ (.slice (some ⟨gg, 0, none⟩) (cs.length + 1) cap))) := by
   have hx := HBX.out
   rw [show (p : Int) + (wd.size : Int) = ((p + wd.size : Nat) : Int) by omega] at hx
   refine HSH.out.push hx HOWN.out (w1 := (W.alloc (Obj.cells #[.int .i64 c.op, .int .i64 c.a, bstr c.nm] 96)).drew) ((Below.refl _ _).alloc (Nat.le_refl _) _).drew ?_ hgrow
   rw [flat_append, flat_one, List.length_append]
   exact hown1
  clear hown1 hgrow hat hlt k2 kf2
  go_wp2
  go_ret
  exact ⟨rfl, HH.out⟩
end Go.Proofs.YtdelihhbmagphaaGreatDoor
namespace Go.Proofs.YtdelihhbmagphaaGreatDoor
open Go.RowKit
theorem exDigit_any (c : UInt8) (w : World) :
  Calls Tryz.prog 208 #[.int .u8 c.toNat] w fun e w' => e = .returned (.bool (isD c)) ∧ w = w' := by
 by_cases h1 : (48 : Int) ≤ c.toNat
 ·by_cases h2 : (c.toNat : Int) ≤ 57
  ·have hL : isD c = true := decide_eq_true ⟨by omega, by omega⟩
   rw [hL]; clear hL
   go_enter Tryz.func208, Tryz.ntmps208
   go_wp2
   go_ret
   exact ⟨rfl, rfl⟩
  ·have hL : isD c = false := decide_eq_false (fun h => h2 (by omega))
   rw [hL]; clear hL
   go_enter Tryz.func208, Tryz.ntmps208
   go_wp2
   go_ret
   exact ⟨rfl, rfl⟩
 ·have hL : isD c = false := decide_eq_false (fun h => h1 (by omega))
  rw [hL]; clear hL
  go_enter Tryz.func208, Tryz.ntmps208
  go_wp2
  go_ret
  exact ⟨rfl, rfl⟩
theorem okB_cases (c : UInt8) : (okB c = true ∧ ((97 ≤ (c.toNat : Int) ∧ (c.toNat : Int) ≤ 122) ∨ (¬ (97 ≤ (c.toNat : Int) ∧ (c.toNat : Int) ≤ 122) ∧ isD c = true) ∨ (¬ (97 ≤ (c.toNat : Int) ∧ (c.toNat : Int) ≤ 122) ∧ isD c = false ∧ ((c.toNat : Int) == 95) = true))) ∨
  (okB c = false ∧ ¬ (97 ≤ (c.toNat : Int) ∧ (c.toNat : Int) ≤ 122) ∧ isD c = false ∧ ((c.toNat : Int) == 95) = false) := by
 unfold okB
 have hL : isLB c = decide (97 ≤ (c.toNat : Int) ∧ (c.toNat : Int) ≤ 122) := by
  unfold isLB
  by_cases h : 97 ≤ c.toNat ∧ c.toNat ≤ 122
  ·rw [decide_eq_true h, decide_eq_true (by omega)]
  ·rw [decide_eq_false h, decide_eq_false (by omega)]
 by_cases h : 97 ≤ (c.toNat : Int) ∧ (c.toNat : Int) ≤ 122
 ·rw [hL, decide_eq_true h]; exact Or.inl ⟨rfl, Or.inl h⟩
 ·rw [hL, decide_eq_false h]
  cases hd : isD c
  ·by_cases h95 : c = 95
   ·subst h95; exact Or.inl ⟨rfl, Or.inr (Or.inr ⟨h, rfl, rfl⟩)⟩
   ·have : (c == 95) = false := beq_eq_false_iff_ne.2 h95
    rw [this]
    exact Or.inr ⟨rfl, h, rfl, byte_not (k := 95) (by decide) h95⟩
  ·exact Or.inl ⟨rfl, Or.inr (Or.inl ⟨h, rfl⟩)⟩
theorem exSign_any (c : UInt8) (w : World) :
  Calls Tryz.prog 228 #[.int .u8 c.toNat] w fun e w' => e = .returned (.bool (okB c)) ∧ w = w' := by
 rcases okB_cases c with ⟨hk, ⟨h1, h2⟩ | ⟨h1, h2⟩ | ⟨h1, h2, h3⟩⟩ | ⟨hk, h1, h2, h3⟩
 ·rw [hk]; clear hk
  go_enter Tryz.func228, Tryz.ntmps228
  go_wp2
  go_ret
  exact ⟨rfl, rfl⟩
 all_goals
  rw [hk]; clear hk
  by_cases ha : (97 : Int) ≤ c.toNat
  ·have hb : ¬ (c.toNat : Int) ≤ 122 := fun h => h1 ⟨ha, h⟩
   clear h1
   go_enter Tryz.func228, Tryz.ntmps228
   go_wp2_with (go_at_call 208; refine (exDigit_any _ _).mono ?_; rintro e w' ⟨rfl, rfl⟩)
   go_ret
   exact ⟨rfl, rfl⟩
  ·clear h1
   go_enter Tryz.func228, Tryz.ntmps228
   go_wp2_with (go_at_call 208; refine (exDigit_any _ _).mono ?_; rintro e w' ⟨rfl, rfl⟩)
   go_ret
   exact ⟨rfl, rfl⟩
def RPost (w0 wa : World) (g : Nat) (s : ByteArray) (r : Rs) (e : Ending) (w' : World) : Prop := e = .returned (.bool r.1) ∧ St w0 wa g s r.2.1 r.2.2 w'
theorem closed_any {w0 wa w : World} {g : Nat} {s : ByteArray} {p : Nat} {cs : List CM} (h : St w0 wa g s p cs w) (hp : p ≤ s.size) (hs : s.size ≤ 600) :
  Calls Tryz.prog 227 #[rp g] w (RPost w0 wa g s (closeD s.data.toList (true, p, cs))) := by
 have hnx := next_any h hp
 obtain ⟨v, ⟨c0, c1, c2, f1, f2⟩, hbox, hown⟩ := h.at_
 clear hbox hown
 by_cases h41 : nx s.data.toList p = 41
 ·have HR : Hid (∀ n, RPost w0 wa g s (closeD s.data.toList (true, p, cs)) (.returned (.bool true)) ((w.drewN n).setCell ⟨g, 1, none⟩ (.int .i64 ((p : Int) + 1)))) := by
   intro n
   unfold closeD
   rw [if_pos rfl, if_pos h41]
   exact ⟨rfl, (h.drewN n).setAt _ (by simp)⟩
  have t41 : (((nx s.data.toList p).toNat : Int) != 41) = false := by simp [h41]
  have HN := Lib.hid hnx; clear h h41 hnx
  unfold rp at HN ⊢
  go_enter Tryz.func227, Tryz.ntmps227
  go_wp2_with (go_at_call 182; refine HN.out.mono ?_; rintro e w' ⟨rfl, n, rfl⟩)
  go_ret
  exact HR.out _
 ·have HR : Hid (∀ n, RPost w0 wa g s (closeD s.data.toList (true, p, cs)) (.returned (.bool false)) (w.drewN n)) := by
   intro n
   unfold closeD
   rw [if_pos rfl, if_neg h41]
   exact ⟨rfl, h.drewN n⟩
  have t41 : (((nx s.data.toList p).toNat : Int) != 41) = true := by
   have : (((nx s.data.toList p).toNat : Int) == 41) = false := byte_not (k := 41) (by decide) h41
   rw [bne, this]; rfl
  have HN := Lib.hid hnx; clear h h41 hnx
  unfold rp at HN ⊢
  go_enter Tryz.func227, Tryz.ntmps227
  go_wp2_with (go_at_call 182; refine HN.out.mono ?_; rintro e w' ⟨rfl, n, rfl⟩)
  go_ret
  exact HR.out _
def Wd (l : List UInt8) (p k : Nat) : Prop := p ≤ k ∧ k ≤ l.length ∧ ((l.drop p).take (k - p)).all okB = true
theorem Wd.start {l : List UInt8} {p : Nat} (h : p ≤ l.length) : Wd l p p := ⟨Nat.le_refl _, h, by simp⟩
theorem Wd.step {l : List UInt8} {p k : Nat} (h : Wd l p k) (hk : k < l.length) (ho : okB l[k] = true) : Wd l p (k + 1) := by
 refine ⟨by have := h.1; omega, hk, ?_⟩
 rw [take_at l p k h.1 hk, List.all_append, h.2.2]
 simp [ho]
theorem takeWhile_take {f : UInt8 → Bool} : ∀ (l : List UInt8) (n : Nat), n ≤ l.length → (l.take n).all f = true → (∀ h : n < l.length, f l[n] = false) → l.takeWhile f = l.take n
 | [], n, _, _, _ => by simp
 | c :: r, 0, _, _, h => by
  have : f c = false := h (by simp)
  simp [this]
 | c :: r, n + 1, hn, ha, h => by
  simp only [List.take_succ_cons, List.all_cons, Bool.and_eq_true] at ha
  rw [List.takeWhile_cons_of_pos ha.1, List.take_succ_cons, takeWhile_take r n (by simpa using hn) ha.2 (fun hl => h (Nat.succ_lt_succ hl))]
theorem Wd.stop {l : List UInt8} {p k : Nat} (h : Wd l p k) (hs : k = l.length ∨ ∃ hk : k < l.length, okB l[k] = false) : wordP l p = (l.drop p).take (k - p) := by
 have h1 := h.1; have h2 := h.2.1
 refine takeWhile_take _ _ (by rw [List.length_drop]; omega) h.2.2 (fun hl => ?_)
 rw [List.length_drop] at hl
 rw [List.getElem_drop]
 rcases hs with e | ⟨hk, hf⟩
 ·omega
 ·rw [← hf]; congr 2; omega
theorem word_any {w0 wa w : World} {g : Nat} {s : ByteArray} {p : Nat} {cs : List CM} (h : St w0 wa g s p cs w) (hp : p ≤ s.size) (hs : s.size ≤ 600) :
  Calls Tryz.prog 210 #[rp g] w fun e w' => e = .returned (bstr (wordP s.data.toList p)) ∧ ∃ n, w' = w.drewN n := by
 have hl : s.data.toList.length = s.size := (Lib.size_eq s).symm
 obtain ⟨v, ⟨c0, c1, c2, f1, f2⟩, hbox, hown⟩ := h.at_
 clear hbox hown h
 have hfin : ∀ k, Wd s.data.toList p k → (k = s.size ∨ ∃ hk : k < s.size, okB s[k] = false) → Ending.returned (.string (s.extract p k)) = .returned (bstr (wordP s.data.toList p)) := by
  intro k hw hk
  rw [hw.stop (hk.imp (fun e => by omega) (fun ⟨h1, h2⟩ => ⟨by omega, by rw [at_list s k h1]; exact h2⟩))]
  unfold bstr
  congr 2
  apply ByteArray.ext
  apply Array.toList_inj.1
  rw [Lib.extract_data]
 have hstep : ∀ k (hk : k < s.size), Wd s.data.toList p k → okB s[k] = true → Wd s.data.toList p (k + 1) := by
  intro k hk hw ho
  exact hw.step (by omega) (by rw [at_list s k hk]; exact ho)
 have HF := Lib.hid hfin; have HS := Lib.hid hstep; clear hfin hstep
 have HW := Lib.hid (Wd.start (l := s.data.toList) (p := p) (by omega)); clear hl
 unfold rp
 go_enter Tryz.func210, Tryz.ntmps210
 go_wp2
 go_loop [3] (fun i => ∃ k : Nat, p ≤ k ∧ k ≤ s.size ∧ Hid (Wd s.data.toList p k) ∧ i = .int .i64 k) (fun i => s.size - (intOf i).toNat)
 case atStart => exact ⟨p, Nat.le_refl _, hp, HW, rfl⟩
 case round =>
  obtain ⟨k, hpk, hk, HK, rfl⟩ := hrel
  by_cases hlt : k < s.size
  ·cases ho : okB s[k]
   ·have HE := Lib.hid (HF.out k HK.out (Or.inr ⟨hlt, ho⟩))
    go_wp2_with (go_at_call 228; refine (exSign_any _ _).mono ?_; rintro e w' ⟨rfl, rfl⟩)
    go_quiet (fail)
    go_wp2
    go_ret
    exact ⟨HE.out, _, rfl⟩
   ·have HE := Lib.hid (HS.out k hlt HK.out ho)
    go_wp2_with (go_at_call 228; refine (exSign_any _ _).mono ?_; rintro e w' ⟨rfl, rfl⟩)
    go_round
    case rel => exact ⟨k + 1, by omega, hlt, HE, by go_num⟩
    case measure => simp [intOf]; omega
  ·have HE := Lib.hid (HF.out k HK.out (Or.inl (by omega)))
   go_wp2_with (go_at_call 228; refine (exSign_any _ _).mono ?_; rintro e w' ⟨rfl, rfl⟩)
   go_quiet (fail)
   go_wp2
   go_ret
   exact ⟨HE.out, _, rfl⟩
end Go.Proofs.YtdelihhbmagphaaGreatDoor
namespace Go.Proofs
open Go.Shelf
def Tryz.laysM173_ren : Go.Shelf.Ren := ⟨fun | 173 => 133 | 246 => 168 | 283 => 194 | 284 => 195 | 285 => 196 | 286 => 197 | 129 => 218 | 317 => 217 | 318 => 219 | 319 => 220 | 320 => 221 | 337 => 231 | 338 => 232 | n => n, fun | 2 => 2 | 3 => 3 | 9 => 9 | 4 => 4 | 171 => 239 | 0 => 0 | 53 => 186 | 37 => 74 | 5 => 5 | 173 => 242 | 212 => 258 | 51 => 216 | 20 => 20 | 213 => 259 | 46 => 174 | 232 => 275 | 233 => 276 | n => n, fun | 17 => 2 | 18 => 7 | 19 => 8 | n => n⟩
theorem Tryz.laysM173 : Go.Proofs.LaysM.n173 Tryz.prog Tryz.laysM173_ren := {
 mixed := by kernel_rfl
 f129 := Tryz.func218.trans (congrArg some (by kernel_rfl))
 f173 := Tryz.func133.trans (congrArg some (by kernel_rfl))
 f246 := Tryz.func168.trans (congrArg some (by kernel_rfl))
 f283 := Tryz.func194.trans (congrArg some (by kernel_rfl))
 f284 := Tryz.func195.trans (congrArg some (by kernel_rfl))
 f285 := Tryz.func196.trans (congrArg some (by kernel_rfl))
 f286 := Tryz.func197.trans (congrArg some (by kernel_rfl))
 f317 := Tryz.func217.trans (congrArg some (by kernel_rfl))
 f318 := Tryz.func219.trans (congrArg some (by kernel_rfl))
 f319 := Tryz.func220.trans (congrArg some (by kernel_rfl))
 f320 := Tryz.func221.trans (congrArg some (by kernel_rfl))
 f337 := Tryz.func231.trans (congrArg some (by kernel_rfl))
 f338 := Tryz.func232.trans (congrArg some (by kernel_rfl))
 t0 := Tryz.underlying0
 a0 := Tryz.isAgg0
 z0 := Tryz.sizeOf0
 v0 := Tryz.zeroValue0
 t2 := Tryz.underlying2
 a2 := Tryz.isAgg2
 z2 := Tryz.sizeOf2
 v2 := Tryz.zeroValue2
 t3 := Tryz.underlying3
 a3 := Tryz.isAgg3
 z3 := Tryz.sizeOf3
 v3 := Tryz.zeroValue3
 t4 := Tryz.underlying4
 a4 := Tryz.isAgg4
 z4 := Tryz.sizeOf4
 v4 := Tryz.zeroValue4
 t5 := Tryz.underlying5
 a5 := Tryz.isAgg5
 z5 := Tryz.sizeOf5
 v5 := Tryz.zeroValue5
 t9 := Tryz.underlying9
 a9 := Tryz.isAgg9
 z9 := Tryz.sizeOf9
 v9 := Tryz.zeroValue9
 t20 := Tryz.underlying20
 a20 := Tryz.isAgg20
 z20 := Tryz.sizeOf20
 v20 := Tryz.zeroValue20
 t37 := Tryz.underlying74
 a37 := Tryz.isAgg74
 z37 := Tryz.sizeOf74
 v37 := Tryz.zeroValue74
 t46 := Tryz.underlying174
 a46 := Tryz.isAgg174
 z46 := Tryz.sizeOf174
 v46 := Tryz.zeroValue174
 t51 := Tryz.underlying216
 a51 := Tryz.isAgg216
 z51 := Tryz.sizeOf216
 v51 := Tryz.zeroValue216
 t53 := Tryz.underlying186
 a53 := Tryz.isAgg186
 z53 := Tryz.sizeOf186
 v53 := Tryz.zeroValue186
 t171 := Tryz.underlying239
 a171 := Tryz.isAgg239
 z171 := Tryz.sizeOf239
 v171 := Tryz.zeroValue239
 t173 := Tryz.underlying242
 a173 := Tryz.isAgg242
 z173 := Tryz.sizeOf242
 v173 := Tryz.zeroValue242
 t212 := Tryz.underlying258
 a212 := Tryz.isAgg258
 z212 := Tryz.sizeOf258
 v212 := Tryz.zeroValue258
 t213 := Tryz.underlying259
 a213 := Tryz.isAgg259
 z213 := Tryz.sizeOf259
 t232 := Tryz.underlying275
 a232 := Tryz.isAgg275
 z232 := Tryz.sizeOf275
 v232 := Tryz.zeroValue275
 t233 := Tryz.underlying276
 a233 := Tryz.isAgg276
 z233 := Tryz.sizeOf276
 v233 := Tryz.zeroValue276
 g17 := by kernel_rfl
 g18 := by kernel_rfl
 g19 := by kernel_rfl
 i0 := by kernel_rfl
 i2 := by kernel_rfl
 i3 := by kernel_rfl
 i4 := by kernel_rfl
 i5 := by kernel_rfl
 i9 := by kernel_rfl
 i20 := by kernel_rfl
 i37 := by kernel_rfl
 i46 := by kernel_rfl
 i51 := by kernel_rfl
 i53 := by kernel_rfl
 i171 := by kernel_rfl
 i173 := by kernel_rfl
 i212 := by kernel_rfl
 i232 := by kernel_rfl
 i233 := by kernel_rfl
 m17 := by kernel_rfl
 m18 := by kernel_rfl
 m19 := by kernel_rfl }
open Go.RowKit Go.Sort Go.Lib in
theorem Tryz.strconv_FormatInt_10 (n : Int) (h0 : -9223372036854775808 ≤ n) (h1 : n ≤ 9223372036854775807) (w : World) (htab : Lib.TabIs Tryz.prog w "internal/strconv.uint64pow10" .u64 Lib.pow10Tab) :
  Calls Tryz.prog 133 #[.int .i64 n, .int .i64 10] w fun e w' => e = .returned (.string ⟨(Lib.itoa n).toArray⟩) ∧ ∃ k os, w' = grow (w.drewN k) os := Any.strconv_FormatInt_10 Tryz.laysM173 n h0 h1 w htab
def Tryz.laysM316_ren : Go.Shelf.Ren := ⟨fun | 316 => 122 | n => n, fun | 9 => 9 | 3 => 3 | 4 => 4 | 37 => 74 | 0 => 0 | 127 => 102 | 5 => 5 | n => n, fun | n => n⟩
theorem Tryz.laysM316 : Go.Proofs.LaysM.n316 Tryz.prog Tryz.laysM316_ren := {
 mixed := by kernel_rfl
 f316 := Tryz.func122.trans (congrArg some (by kernel_rfl))
 t0 := Tryz.underlying0
 a0 := Tryz.isAgg0
 z0 := Tryz.sizeOf0
 v0 := Tryz.zeroValue0
 t3 := Tryz.underlying3
 a3 := Tryz.isAgg3
 z3 := Tryz.sizeOf3
 v3 := Tryz.zeroValue3
 t4 := Tryz.underlying4
 a4 := Tryz.isAgg4
 z4 := Tryz.sizeOf4
 v4 := Tryz.zeroValue4
 t9 := Tryz.underlying9
 a9 := Tryz.isAgg9
 z9 := Tryz.sizeOf9
 v9 := Tryz.zeroValue9
 t37 := Tryz.underlying74
 a37 := Tryz.isAgg74
 z37 := Tryz.sizeOf74
 v37 := Tryz.zeroValue74
 t127 := Tryz.underlying102
 a127 := Tryz.isAgg102
 z127 := Tryz.sizeOf102
 v127 := Tryz.zeroValue102
 t5 := Tryz.underlying5
 a5 := Tryz.isAgg5
 z5 := Tryz.sizeOf5
 v5 := Tryz.zeroValue5
 i0 := by kernel_rfl
 i3 := by kernel_rfl
 i4 := by kernel_rfl
 i5 := by kernel_rfl
 i9 := by kernel_rfl
 i37 := by kernel_rfl
 i127 := by kernel_rfl }
open Go.RowKit in
theorem Tryz.stringslite_Clone (s : ByteArray) (w : World) (hlim : s.size ≤ 281474976710656) :
  Calls Tryz.prog 122 #[.string s] w fun e w' => e = .returned (.string s) ∧ Below w.heap.size w w' := Any.stringslite_Clone Tryz.laysM316 s w hlim
def Tryz.lays99_ren : Go.Shelf.Ren := ⟨fun | 99 => 131 | 206 => 166 | n => n, fun | 9 => 9 | 4 => 4 | 3 => 3 | n => n, fun | n => n⟩
theorem Tryz.lays99 : Go.Proofs.Lays.n99 Tryz.prog Tryz.lays99_ren := {
 mixed := by kernel_rfl
 f99 := Tryz.func131.trans (congrArg some (by kernel_rfl))
 f206 := Tryz.func166.trans (congrArg some (by kernel_rfl))
 t3 := Tryz.underlying3
 a3 := Tryz.isAgg3
 z3 := Tryz.sizeOf3
 v3 := Tryz.zeroValue3
 t4 := Tryz.underlying4
 a4 := Tryz.isAgg4
 z4 := Tryz.sizeOf4
 v4 := Tryz.zeroValue4
 t9 := Tryz.underlying9
 a9 := Tryz.isAgg9
 z9 := Tryz.sizeOf9
 v9 := Tryz.zeroValue9 }
open Go.RowKit Go.Lib in
theorem Tryz.strings_HasPrefix (s p : ByteArray) (w : World) :
  Calls Tryz.prog 131 #[.string s, .string p] w fun e w' => e = .returned (.bool (Lib.hasPrefix s.data.toList p.data.toList)) ∧ w' = w := Any.strings_HasPrefix Tryz.lays99 s p w
def Tryz.lays101_ren : Go.Shelf.Ren := ⟨fun | 101 => 113 | 208 => 149 | 206 => 166 | n => n, fun | 9 => 9 | 4 => 4 | 3 => 3 | n => n, fun | n => n⟩
theorem Tryz.lays101 : Go.Proofs.Lays.n101 Tryz.prog Tryz.lays101_ren := {
 mixed := by kernel_rfl
 f101 := Tryz.func113.trans (congrArg some (by kernel_rfl))
 f206 := Tryz.func166.trans (congrArg some (by kernel_rfl))
 f208 := Tryz.func149.trans (congrArg some (by kernel_rfl))
 t3 := Tryz.underlying3
 a3 := Tryz.isAgg3
 z3 := Tryz.sizeOf3
 v3 := Tryz.zeroValue3
 t4 := Tryz.underlying4
 a4 := Tryz.isAgg4
 z4 := Tryz.sizeOf4
 v4 := Tryz.zeroValue4
 t9 := Tryz.underlying9
 a9 := Tryz.isAgg9
 z9 := Tryz.sizeOf9
 v9 := Tryz.zeroValue9 }
open Go.RowKit Go.Lib in
theorem Tryz.strings_TrimPrefix (s p : ByteArray) (w : World) :
  Calls Tryz.prog 113 #[.string s, .string p] w fun e w' => e = .returned (.string ⟨(Lib.trimPrefix s.data.toList p.data.toList).toArray⟩) ∧ w' = w := Any.strings_TrimPrefix Tryz.lays101 s p w
end Go.Proofs
namespace Go.Proofs.YtdelihhbmagphaaGreatDoor
open Go.RowKit
theorem clone_any (s : ByteArray) (w : World) (hs : s.size ≤ 281474976710656) :
  Calls Tryz.prog 86 #[.string s] w fun e w' => e = .returned (.string s) ∧ Below w.heap.size w w' := by
 go_enter Tryz.func86, Tryz.ntmps86
 go_wp2_with fail
 refine (Tryz.stringslite_Clone s w hs).mono ?_
 rintro e w' ⟨rfl, hb⟩
 have HB := Lib.hid hb; clear hb
 go_wp2
 go_ret
 exact ⟨rfl, HB.out⟩
theorem clone_list (l : List UInt8) (w : World) (hs : l.length ≤ 281474976710656) :
  Calls Tryz.prog 86 #[bstr l] w fun e w' => e = .returned (.string ⟨l.toArray⟩) ∧ Below w.heap.size w w' := clone_any ⟨l.toArray⟩ w (by show l.toArray.size ≤ _; simpa using hs)
theorem name_list (l : List UInt8) (w : World) :
  Calls Tryz.prog 82 #[bstr l] w fun e w' => e = .returned (.bool (nameB l)) ∧ w = w' := name_any ⟨l.toArray⟩ w
theorem word_len (s : ByteArray) (p : Nat) (h : p ≤ s.size) : p + (wordP s.data.toList p).length ≤ s.size := by
 have hl : s.data.toList.length = s.size := (Lib.size_eq s).symm
 have := word_le s.data.toList p (by omega)
 omega
theorem size_list (l : List UInt8) : (⟨l.toArray⟩ : ByteArray).size = l.length := by show l.toArray.size = _; simp
theorem take_list {w0 wa w : World} {g : Nat} {s : ByteArray} {p : Nat} {cs : List CM} (h : St w0 wa g s p cs w) (l : List UInt8) (o a : Int) (nm : List UInt8) (hp : p + l.length ≤ s.size) (hs : s.size ≤ 600) (hc : cs.length ≤ 600) :
  Calls Tryz.prog 211 #[rp g, bstr l, .agg #[.int .i64 o, .int .i64 a, bstr nm]] w fun e w' => e = .returned (.bool true) ∧ St w0 wa g s (p + l.length) (cs ++ [⟨o, a, nm⟩]) w' := by
 have := take_any h ⟨l.toArray⟩ ⟨o, a, nm⟩ (by rw [size_list]; exact hp) hs hc
 rw [size_list] at this
 exact this
set_option maxHeartbeats 1000000 in
theorem state_any {w0 wa w : World} {g : Nat} {s : ByteArray} {p : Nat} {cs : List CM} (h : St w0 wa g s p cs w) (hp : p + 3 ≤ s.size) (hs : s.size ≤ 600) (hc : cs.length ≤ 600) :
  Calls Tryz.prog 212 #[rp g] w (RPost w0 wa g s (stateD s.data.toList p cs)) := by
 have HS := Lib.hid (h.setAt ((p : Int) + 3) (p' := p + 3) (by omega))
 have hwl := word_len s (p + 3) hp
 obtain ⟨v, ⟨c0, c1, c2, f1, f2⟩, hbox, hown⟩ := h.at_
 clear hbox hown h
 obtain ⟨W, hW⟩ : ∃ W, wordP s.data.toList (p + 3) = W := ⟨_, rfl⟩
 have hR : stateD s.data.toList p cs = if nameB W = true then closeD s.data.toList (true, p + 3 + W.length, cs ++ [⟨6, 0, W⟩]) else (false, p + 3, cs) := by rw [← hW]; rfl
 have HW := Lib.hid hW
 rw [hW] at hwl
 cases hn : nameB W
 ·rw [hR, hn, if_neg (by decide)]
  clear hR hW
  have HN : Hid (nameB W = false) := hn
  clear hn
  unfold rp
  go_enter Tryz.func212, Tryz.ntmps212
  go_wp2_with fail
  refine (word_any HS.out hp hs).mono ?_
  rintro e w' ⟨rfl, n, rfl⟩
  rw [HW.out]
  go_wp2_with fail
  refine (name_list W _).mono ?_
  rintro e w' ⟨rfl, rfl⟩
  rw [HN.out]
  go_wp2
  go_ret
  exact ⟨rfl, HS.out.drewN _⟩
 ·rw [hR, hn, if_pos rfl]
  clear hR hW
  have HN : Hid (nameB W = true) := hn
  clear hn
  unfold rp
  go_enter Tryz.func212, Tryz.ntmps212
  go_wp2_with fail
  refine (word_any HS.out hp hs).mono ?_
  rintro e w' ⟨rfl, n, rfl⟩
  rw [HW.out]
  go_wp2_with fail
  refine (name_list W _).mono ?_
  rintro e w' ⟨rfl, rfl⟩
  rw [HN.out]
  go_wp2_with fail
  refine (clone_list W _ (by omega)).mono ?_
  rintro e w1 ⟨rfl, hb⟩
  have H1 := Lib.hid ((HS.out.drewN n).to_below hb)
  clear hb
  go_wp2_with fail
  refine (take_list H1.out W 6 0 W (by omega) hs hc).mono ?_
  rintro e w2 ⟨rfl, h2⟩
  have H2 := Lib.hid h2; clear h2
  go_wp2_with fail
  refine (closed_any H2.out (by omega) hs).mono ?_
  rintro e w3 ⟨rfl, h3⟩
  have H3 := Lib.hid h3; clear h3
  go_wp2
  go_ret
  exact ⟨rfl, H3.out⟩
end Go.Proofs.YtdelihhbmagphaaGreatDoor
