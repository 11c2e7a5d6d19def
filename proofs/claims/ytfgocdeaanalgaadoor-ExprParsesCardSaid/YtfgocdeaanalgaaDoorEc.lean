/- The reader's small calls: take, closed, word, isSign, isDigit. -/
import Derived.Test.YtfgocdeaanalgaaDoorEb
import Derived.Deep.RegionHeld3
import Derived.Deep.AppendLies
import Derived.StillTailTactics
namespace Go.Proofs.YtfgocdeaanalgaaDoor
open Go.RowKit

theorem one_wide (w1 : World) (x y z : Value) (t : TypeId) : ∀ (j : Nat) (u : Value), [x, y, z][j]? = some u → (w1.alloc (.cells #[x, y, z] t)).cell? ((⟨w1.heap.size, 0, none⟩ : Addr).add j) = some u := by
  intro j u hj
  match j, hj with
  | 0, hj => simp at hj; subst hj; simp [Addr.add]
  | 1, hj => simp at hj; subst hj; simp [Addr.add]
  | 2, hj => simp at hj; subst hj; simp [Addr.add]
  | j + 3, hj => simp at hj
theorem one_vals (c : CM) : ∀ u ∈ cellV c, u.oneCell' = true := by
  intro u hu
  simp [cellV] at hu
  rcases hu with rfl | rfl | rfl <;> rfl

theorem cell_row {w : World} {b : Nat} {c : CM} {t : TypeId} (h : w.heap[b]? = some (.cells #[.int .i64 c.op, .int .i64 c.a, bstr c.nm] t (0, 0))) : w.cell? ⟨b, 0, none⟩ = some (.int .i64 c.op) ∧ w.cell? ⟨b, 1, none⟩ = some (.int .i64 c.a) ∧ w.cell? ⟨b, 2, none⟩ = some (bstr c.nm) :=
  ⟨(cell_of_row w b 0 _ _ _ h).trans rfl, (cell_of_row w b 1 _ _ _ h).trans rfl, (cell_of_row w b 2 _ _ _ h).trans rfl⟩

/-- the world behind a store of the place and a new block -/
theorem St.moved {w0 wa w : World} {g : Nat} {s : ByteArray} {p : Nat} {cs : List CM} (h : St w0 wa g s p cs w) (q : Int) (p' : Nat) (hq : q = (p' : Int)) (o : Array Value) (t : TypeId) :
    St w0 wa g s p' cs ((w.setCell ⟨g, 1, none⟩ (.int .i64 q)).alloc (.cells o t)) ∧ ((w.setCell ⟨g, 1, none⟩ (.int .i64 q)).alloc (.cells o t)).heap[w.heap.size]? = some (.cells o t (0, 0)) := by
  refine ⟨(h.setAt _ hq).alloc _, ?_⟩
  have := heap_alloc_new (w.setCell ⟨g, 1, none⟩ (.int .i64 q)) (.cells o t)
  simpa using this

set_option maxRecDepth 100000 in
set_option maxHeartbeats 3200000 in
theorem take_any {w0 wa w : World} {g : Nat} {s : ByteArray} {p : Nat} {cs : List CM} (h : St w0 wa g s p cs w) (wd : ByteArray) (c : CM) (hp : p + wd.size ≤ s.size) (hs : s.size ≤ 600) (hc : cs.length ≤ 600) :
    Calls Tryd.prog 58 #[rp g, .string wd, .agg #[.int .i64 c.op, .int .i64 c.a, bstr c.nm]] w fun e w' => e = .returned (.bool true) ∧ St w0 wa g s (p + wd.size) (cs ++ [c]) w' := by
  obtain ⟨HS, HB⟩ := h.moved ((p : Int) + (wd.size : Int)) (p + wd.size) (by omega) #[.int .i64 c.op, .int .i64 c.a, bstr c.nm] 38
  have HSH := Lib.hid HS; have HBH := Lib.hid HB; clear HB
  have hg := h.lt
  obtain ⟨v, ⟨c0, c1, c2, f1, f2⟩, hbox, hown⟩ := h.at_
  have hvb : v.ownBlock ≠ some w.heap.size := fun e => by have := (hown.lt _ e).2; omega
  have HVB := Lib.hid hvb
  have HOWN := Lib.hid ((ownsRow_setCell_other hown (own_ne hown hbox) (a := ⟨g, 1, none⟩) (.int .i64 ((p : Int) + (wd.size : Int)))).alloc (.cells #[.int .i64 c.op, .int .i64 c.a, bstr c.nm] 38))
  have HBX : Hid (((w.setCell ⟨g, 1, none⟩ (.int .i64 ((p : Int) + (wd.size : Int)))).alloc (.cells #[.int .i64 c.op, .int .i64 c.a, bstr c.nm] 38)).heap[g]? = some (.cells #[.string s, .int .i64 ((p : Int) + (wd.size : Int)), v] 48 (0, 0))) := by
    exact (Below.heap_alloc _ _ g (by simpa using hg)).trans ((heap_setCell_same w g 1 _ _ _ hbox).trans rfl)
  obtain ⟨i0, hi0, hz0, hz1, hz2⟩ := info_parts Tryd.infoCell
  have HI := Lib.hid hi0; have HZ0 := Lib.hid hz0; have HZ1 := Lib.hid hz1; have HZ2 := Lib.hid hz2
  clear hi0 hz0 hz1 hz2 hbox hown hvb HS
  have hsz : w.heap.size ≠ g := by omega
  unfold rp
  go_enter Tryd.func58, Tryd.ntmps58
  go_wp2
  generalize hW : (w.setCell ⟨g, 1, none⟩ (.int .i64 ((p : Int) + (wd.size : Int)))).alloc (.cells #[.int .i64 c.op, .int .i64 c.a, bstr c.nm] 38) = W at HSH HBH HOWN HBX ⊢
  generalize hb : w.heap.size = b at *
  clear hW h c0 c1 c2 f1 f2
  have hgl := HSH.out.lt
  have hbl := lt_of_block HBH.out
  have hne := own_ne HOWN.out HBX.out
  have hWs := HSH.out.size
  have c2 := (cell_of_row W g 2 _ _ _ HBX.out).trans (show _ = some v from rfl)
  have f2 := frozen_of_row W g 2 _ _ HBX.out
  obtain ⟨b0, b1, b2⟩ := cell_row HBH.out
  have HNE := Lib.hid hne; clear hne
  have kf : (W.alloc (Obj.cells #[.int .i64 c.op, .int .i64 c.a, bstr c.nm] 38)).drew.frozen? ⟨g, 2, none⟩ = false := (World.frozen?_alloc_past _ g 2 hgl).trans f2
  have kc : (W.alloc (Obj.cells #[.int .i64 c.op, .int .i64 c.a, bstr c.nm] 38)).drew.cell? ⟨g, 2, none⟩ = some v := (World.cell?_alloc_lt W _ _ hgl).trans c2
  have KC := Lib.hid kc; have KF := Lib.hid kf; clear kc kf
  go_region_law ((refine step_append_lies _ (by rfl) _ _ _ (by rfl) w0.heap.size 38 i0 _ 3 32 Tryd.underlying22 HI.out HZ0.out HZ1.out HZ2.out rfl (by omega) v cs.length (flat cs) (by rfl) ((HOWN.out.alloc _).drew) ⟨W.heap.size, 0, none⟩ 1 1 (cellV c) (by rfl) (by rfl) (World.news_of_block (cs := #[.int .i64 c.op, .int .i64 c.a, bstr c.nm]) (t := 38) (fr := (0, 0)) (heap_alloc_new W _)) (one_vals c) (by omega) (by unfold maxLen; omega) (by omega) (by simp; omega) (W.heap.size + 1) (by simp) ?_
                  intro gg cap w1 hown1 hgrow hat hlt
                  have k2 := (hgrow.cell_far ⟨g, 2, none⟩ (by simp; omega) (Ne.symm HNE.out)).trans KC.out
                  have kf2 := (hgrow.frozen_far ⟨g, 2, none⟩ (by simp; omega) (Ne.symm HNE.out)).trans KF.out))
  all_goals
    have HH : Hid (St w0 wa g s (p + wd.size) (cs ++ [c]) (w1.setCell ⟨g, 2, none⟩ (.slice (some ⟨gg, 0, none⟩) (cs.length + 1) cap))) := by
      have hx := HBX.out
      rw [show (p : Int) + (wd.size : Int) = ((p + wd.size : Nat) : Int) by omega] at hx
      refine HSH.out.push hx HOWN.out (w1 := (W.alloc (Obj.cells #[.int .i64 c.op, .int .i64 c.a, bstr c.nm] 38)).drew) ((Below.refl _ _).alloc (Nat.le_refl _) _).drew ?_ hgrow
      rw [flat_append, flat_one, List.length_append]
      exact hown1
    clear hown1 hgrow hat hlt k2 kf2
    go_wp2
    go_ret
    exact ⟨rfl, HH.out⟩
end Go.Proofs.YtfgocdeaanalgaaDoor
