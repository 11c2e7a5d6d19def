/- Layer 16: the writer in memory. -/
import Derived.Test.YtlbhkendbngmaaaJb
import Derived.Test.YtlbhkendbngmaaaCf
import Derived.Lib.AppendStr
import Derived.Laws.OwnMore
import Derived.OneCell
import Derived.Deep.Onto
import Derived.Deep.AppendLies
import Derived.Laws.Rows
import Derived.Deep.Cut
import Derived.Deep.CutRange
namespace Go.Proofs.Ytlbhkendbngmaaa.Wi
open Go.RowKit
set_option maxRecDepth 100000

def byteV (l : List UInt8) : List Value := l.map fun c => .int .u8 c.toNat
theorem byteV_append (a b : List UInt8) : byteV (a ++ b) = byteV a ++ byteV b := by simp [byteV]
theorem byteV_str (s : ByteArray) : Lib.strCells s = byteV s.data.toList := rfl
theorem byteV_length (l : List UInt8) : (byteV l).length = l.length := by simp [byteV]
theorem lt_of_heap {w : World} {k : Nat} {o : Obj} (h : w.heap[k]? = some o) : k < w.heap.size := (Array.getElem?_eq_some_iff.1 h).1
theorem own_below {w w1 : World} {base : Nat} {e : TypeId} {size n : Nat} {v : Value} {xs : List Value} (h : w.ownsRow base e size v n xs) (hb : Below w.heap.size w w1) : w1.ownsRow base e size v n xs :=
  h.kept ⟨hb.os, hb.tape, hb.output, hb.size, fun k hk _ => hb.block k hk⟩ (by cases hv : v.ownBlock with
    | none => exact Or.inl rfl
    | some k => exact Or.inr (by simp) : v.ownBlock = none ∨ v.ownBlock ≠ none)
theorem own_form {w : World} {base : Nat} {e : TypeId} {size n : Nat} {v : Value} {xs : List Value} (h : w.ownsRow base e size v n xs) : ∃ A c, v = .slice A n c := by
  rcases h.2 with ⟨hv, h0⟩ | ⟨g, cap, cur, hv, _⟩
  · exact ⟨_, _, by rw [hv, h0]⟩
  · exact ⟨_, _, hv⟩
theorem own_off {w : World} {base size n k : Nat} {e t : TypeId} {v : Value} {xs : List Value} {o : Array Value} {fr : Nat × Nat} (hown : w.ownsRow base e size v n xs) (hbox : w.heap[k]? = some (.cells o t fr)) (hte : t ≠ e) : v.ownBlock ≠ some k := by
  rcases hown.2 with ⟨rfl, _⟩ | ⟨g', cap, cur, rfl, _, hh, _⟩
  · simp [Value.ownBlock]
  · intro e1
    have e1 : g' = k := by simpa [Value.ownBlock] using e1
    subst e1
    rw [hbox] at hh
    simp only [Option.some.injEq, Obj.cells.injEq] at hh
    exact hte hh.2.1
/-- all cells but the box's and rows of bytes lie as they lay -/
def KeptU (b : Nat) (w w' : World) : Prop := ∀ (k : Nat) (cur : Array Value) (t : TypeId) (z : Nat × Nat), k ≠ b → t ≠ 5 → w.heap[k]? = some (Obj.cells cur t z) → w'.heap[k]? = some (Obj.cells cur t z)
theorem KeptU.refl (b : Nat) (w : World) : KeptU b w w := fun _ _ _ _ _ _ h => h
theorem KeptU.trans {b : Nat} {x y z : World} (h : KeptU b x y) (k : KeptU b y z) : KeptU b x z := fun i cur t q h1 h2 h3 => k i cur t q h1 h2 (h i cur t q h1 h2 h3)
theorem KeptU.of_below {b : Nat} {w w' : World} (h : Below w.heap.size w w') : KeptU b w w' := fun k _ _ _ _ _ hk => (h.block k (lt_of_heap hk)).trans hk
theorem KeptU.of_grown {b : Nat} {w w' : World} {row : Option Nat} (h : w.grownBy w' row) (hr : ∀ g, row = some g → g = b ∨ ∃ (cur : Array Value) (z : Nat × Nat), w.heap[g]? = some (.cells cur 5 z)) : KeptU b w w' := fun k cur t z h1 h2 hk =>
  (h.block k (lt_of_heap hk) (fun e => by
    rcases hr k e.symm with h3 | ⟨_, _, h3⟩
    · exact h1 h3
    · rw [h3] at hk; cases hk; exact h2 rfl)).trans hk
theorem grown_set (w : World) (b j : Nat) (v : Value) : w.grownBy (w.setCell ⟨b, j, none⟩ v) (some b) := ⟨rfl, rfl, rfl, by simp, fun q _ hq => Below.heap_setCell _ _ _ q (fun e => hq (by rw [e]))⟩
/-- the writer in its box g: its bytes in a row of the call's own, whether something was beyond -/
structure WW (w0 : World) (g : Nat) (L : Bytes) (b : Bool) (w : World) : Prop where
  box : ∃ v, w.heap[g]? = some (.cells #[v, .bool b] 57 (0, 0)) ∧ w.ownsRow w0.heap.size 5 1 v L.length (byteV L)
  ge : w0.heap.size ≤ g
  below : Below w0.heap.size w0 w
section
variable {w0 w w1 w2 : World} {g : Nat} {L M : Bytes} {b b' : Bool}
theorem WW.lt (h : WW w0 g L b w) : g < w.heap.size := by obtain ⟨_, hb, _⟩ := h.box; exact lt_of_heap hb
theorem WW.size (h : WW w0 g L b w) : w0.heap.size ≤ w.heap.size := h.below.size
theorem WW.later (h : WW w0 g L b w) (hb : Below w.heap.size w w1) : WW w0 g L b w1 := by
  obtain ⟨v, hbox, ho⟩ := h.box
  exact ⟨⟨v, (hb.block g h.lt).trans hbox, own_below ho hb⟩, h.ge, h.below.trans (hb.mono h.size)⟩
theorem WW.at_ (h : WW w0 g L b w) : ∃ v, (w.cell? ⟨g, 0, none⟩ = some v ∧ w.cell? ⟨g, 1, none⟩ = some (.bool b) ∧ w.frozen? ⟨g, 0, none⟩ = false ∧ w.frozen? ⟨g, 1, none⟩ = false) ∧
    w.heap[g]? = some (.cells #[v, .bool b] 57 (0, 0)) ∧ w.ownsRow w0.heap.size 5 1 v L.length (byteV L) := by
  obtain ⟨v, hbox, ho⟩ := h.box
  exact ⟨v, ⟨(cell_of_row w g 0 _ _ _ hbox).trans rfl, (cell_of_row w g 1 _ _ _ hbox).trans rfl, frozen_of_row w g 0 _ _ hbox, frozen_of_row w g 1 _ _ hbox⟩, hbox, ho⟩
/-- something was beyond -/
theorem WW.mark (h : WW w0 g L b w) : WW w0 g L b' (w.setCell ⟨g, 1, none⟩ (.bool b')) ∧ KeptU g w (w.setCell ⟨g, 1, none⟩ (.bool b')) := by
  obtain ⟨v, hbox, ho⟩ := h.box
  have hne := own_off ho hbox (by decide)
  refine ⟨⟨⟨v, ?_, ownsRow_setCell_other ho hne _⟩, h.ge, h.below.setCell h.ge _⟩, KeptU.of_grown (grown_set w g 1 _) (fun k e => Or.inl (by cases e; rfl))⟩
  rw [heap_setCell_same w g 1 _ _ _ hbox]; rfl
/-- bytes more, stored -/
theorem WW.more {v v' : Value} (h : WW w0 g L b w) (hbox : w.heap[g]? = some (.cells #[v, .bool b] 57 (0, 0))) (ho : w.ownsRow w0.heap.size 5 1 v L.length (byteV L))
    (hb : Below w.heap.size w w1) (hown : w2.ownsRow w0.heap.size 5 1 v' (L ++ M).length (byteV (L ++ M))) (hg : w1.grownBy w2 v.ownBlock) :
    w2.cell? ⟨g, 0, none⟩ = some v ∧ w2.frozen? ⟨g, 0, none⟩ = false ∧ WW w0 g (L ++ M) b (w2.setCell ⟨g, 0, none⟩ v') ∧ KeptU g w (w2.setCell ⟨g, 0, none⟩ v') := by
  have h1 := h.later hb
  have hne := own_off ho hbox (by decide)
  have hbox2 : w2.heap[g]? = some (.cells #[v, .bool b] 57 (0, 0)) := (hg.block g h1.lt (fun e => hne e.symm)).trans ((hb.block g h.lt).trans hbox)
  refine ⟨(cell_of_row w2 g 0 _ _ _ hbox2).trans rfl, frozen_of_row w2 g 0 _ _ hbox2, ⟨⟨v', ?_, ownsRow_setCell_other hown (own_off hown hbox2 (by decide)) _⟩, h.ge, ?_⟩, ?_⟩
  · rw [heap_setCell_same w2 g 0 _ _ _ hbox2]; rfl
  · exact (h1.below.grown hg h1.size (fun k hk => (ho.lt k hk).1)).setCell h.ge _
  · refine (KeptU.of_below hb).trans ((KeptU.of_grown hg (fun k e => ?_)).trans (KeptU.of_grown (grown_set w2 g 0 _) (fun k e => Or.inl (by cases e; rfl))))
    rcases (own_below ho hb).2 with ⟨hv, _⟩ | ⟨g', cap, cur, hv, _, hh, _⟩
    · rw [hv] at e; cases e
    · rw [hv] at e; cases e; exact Or.inr ⟨_, _, hh⟩
end
theorem Try.infoByte : (Try.prog.info? 5).map (fun i => (i.zero, i.size, i.bytes)) = some (some (.int .u8 0), 1, 1) := by kernel_rfl
def wp_ (g : Nat) : Value := .pointer (some ⟨g, 0, none⟩)
/-- a number's lowest byte -/
def lowB (n : Int) : UInt8 := UInt8.ofNat (n % 256).toNat
theorem lowB_nat (n : Int) : ((lowB n).toNat : Int) = n % 256 := by
  unfold lowB
  rw [UInt8.toNat_ofNat']
  omega
theorem one_byte (w : World) (c : UInt8) (t : TypeId) : ∀ j u, (byteV [c])[j]? = some u → (w.alloc (.cells #[.int .u8 (c.toNat : Int)] t)).cell? ((⟨w.heap.size, 0, none⟩ : Addr).add j) = some u := by
  intro j u h
  obtain rfl : j = 0 := by
    rcases j with _ | j
    · rfl
    · simp [byteV] at h
  simp [byteV] at h
  subst h
  simp [Addr.add]
set_option maxHeartbeats 2000000 in
theorem small_any {w0 w : World} {g : Nat} {L : Bytes} {b : Bool} (h : WW w0 g L b w) (n lo hi : Int) (hL : L.length ≤ 1000000) :
    Calls Try.prog 33 #[wp_ g, .int .i64 n, .int .i64 lo, .int .i64 hi] w fun e w' => e = .returned (.tuple #[]) ∧ WW w0 g (L ++ [lowB n]) (b || (decide (n < lo) || decide (hi < n))) w' ∧ KeptU g w w' := by
  obtain ⟨i0, hi0, hz0, hz1, hz2⟩ := info_parts Try.infoByte
  have HI := Lib.hid hi0; have HZ0 := Lib.hid hz0; have HZ1 := Lib.hid hz1; have HZ2 := Lib.hid hz2
  clear hi0 hz0 hz1 hz2
  have hlb : n % 256 = ((lowB n).toNat : Int) := (lowB_nat n).symm
  generalize lowB n = B at *
  unfold wp_
  by_cases hn : n < lo ∨ hi < n
  · have hbb : (b || (decide (n < lo) || decide (hi < n))) = true := by
      rcases hn with h1 | h1 <;> simp [h1]
    rw [hbb]
    clear hbb
    obtain ⟨h1, hk1⟩ := h.mark (b' := true)
    obtain ⟨_, ⟨_, c1, _, f1⟩, _, _⟩ := h.at_
    obtain ⟨w1, hw1⟩ : ∃ W, W = w.setCell ⟨g, 1, none⟩ (.bool true) := ⟨_, rfl⟩
    rw [← hw1] at h1 hk1
    obtain ⟨v, ⟨d0, d1, e0, e1⟩, hbox, ho⟩ := h1.at_
    obtain ⟨A, c, rfl⟩ := own_form ho
    have HW1 := Lib.hid hw1; have H1 := Lib.hid h1; have HK1 := Lib.hid hk1; have HB := Lib.hid hbox; have HO := Lib.hid ho
    have hsz := h1.size
    clear hw1 h1 hk1 hbox ho h
    by_cases h2 : n < lo
    · have h3 : decide (n < lo) = true := decide_eq_true h2
      clear hn
      go_enter Try.func33, Try.ntmps33
      go_upto_region 2 with fail
      rw [← HW1.out]
      go_wp2_with (at_builtin; refine wpList_append_own _ rfl _ _ 53 rfl w0.heap.size 5 i0 _ 1 1 Try.underlying53 HI.out HZ0.out HZ1.out HZ2.out rfl (by decide) _ L.length (byteV L) rfl (HO.out.alloc _) ⟨w1.heap.size, 0, none⟩ 1 1 (byteV [B]) rfl rfl (one_byte w1 B _) (by intro u hu; simp [byteV] at hu; subst hu; rfl) (by unfold maxLen; omega) (by omega) (by simp; omega) ?_)
      intro v' w2 hown hg _
      obtain ⟨A', c', rfl⟩ := own_form hown
      obtain ⟨k0, k1, hh⟩ := H1.out.more (M := [B]) HB.out HO.out ((Below.refl _ _).alloc (Nat.le_refl _) _) (by simpa [byteV_append] using hown) hg
      have HH := Lib.hid hh
      clear hown hg hh
      go_wp2
      go_end0
      exact ⟨rfl, HH.out.1, HK1.out.trans HH.out.2⟩
    · have h3 : decide (n < lo) = false := decide_eq_false h2
      have h4 : hi < n := by omega
      have h5 : decide (hi < n) = true := decide_eq_true h4
      clear hn
      go_enter Try.func33, Try.ntmps33
      go_upto_region 2 with fail
      rw [← HW1.out]
      go_wp2_with (at_builtin; refine wpList_append_own _ rfl _ _ 53 rfl w0.heap.size 5 i0 _ 1 1 Try.underlying53 HI.out HZ0.out HZ1.out HZ2.out rfl (by decide) _ L.length (byteV L) rfl (HO.out.alloc _) ⟨w1.heap.size, 0, none⟩ 1 1 (byteV [B]) rfl rfl (one_byte w1 B _) (by intro u hu; simp [byteV] at hu; subst hu; rfl) (by unfold maxLen; omega) (by omega) (by simp; omega) ?_)
      intro v' w2 hown hg _
      obtain ⟨A', c', rfl⟩ := own_form hown
      obtain ⟨k0, k1, hh⟩ := H1.out.more (M := [B]) HB.out HO.out ((Below.refl _ _).alloc (Nat.le_refl _) _) (by simpa [byteV_append] using hown) hg
      have HH := Lib.hid hh
      clear hown hg hh
      go_wp2
      go_end0
      exact ⟨rfl, HH.out.1, HK1.out.trans HH.out.2⟩
  · have hbb : (b || (decide (n < lo) || decide (hi < n))) = b := by
      have h1 : ¬ n < lo := by omega
      have h2 : ¬ hi < n := by omega
      simp [h1, h2]
    rw [hbb]
    clear hbb
    have h2 : ¬ n < lo := by omega
    have h4 : ¬ hi < n := by omega
    have h3 : decide (n < lo) = false := decide_eq_false h2
    have h5 : decide (hi < n) = false := decide_eq_false h4
    obtain ⟨v, ⟨d0, d1, e0, e1⟩, hbox, ho⟩ := h.at_
    obtain ⟨A, c, rfl⟩ := own_form ho
    have H1 := Lib.hid h; have HB := Lib.hid hbox; have HO := Lib.hid ho
    have hsz := h.size
    clear hbox ho h hn
    go_enter Try.func33, Try.ntmps33
    go_wp2_with (at_builtin; refine wpList_append_own _ rfl _ _ 53 rfl w0.heap.size 5 i0 _ 1 1 Try.underlying53 HI.out HZ0.out HZ1.out HZ2.out rfl (by decide) _ L.length (byteV L) rfl (HO.out.alloc _) ⟨w.heap.size, 0, none⟩ 1 1 (byteV [B]) rfl rfl (one_byte w B _) (by intro u hu; simp [byteV] at hu; subst hu; rfl) (by unfold maxLen; omega) (by omega) (by simp; omega) ?_)
    intro v' w2 hown hg _
    obtain ⟨A', c', rfl⟩ := own_form hown
    obtain ⟨k0, k1, hh⟩ := H1.out.more (M := [B]) HB.out HO.out ((Below.refl _ _).alloc (Nat.le_refl _) _) (by simpa [byteV_append] using hown) hg
    have HH := Lib.hid hh
    clear hown hg hh
    go_wp2
    go_end0
    exact ⟨rfl, HH.out⟩
end Go.Proofs.Ytlbhkendbngmaaa.Wi
