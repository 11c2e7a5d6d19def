/- The reader's calls inside and part, given joins. -/
import Derived.Test.YtfgocdeaanalgaaDoorEh
import Derived.Test.YtfgocdeaanalgaaDoorEi
namespace Go.Proofs.YtfgocdeaanalgaaDoor
open Go.RowKit

/-- what joins does, with n rounds at hand -/
def JH (s : ByteArray) (n : Nat) : Prop := ∀ (w0 wa w : World) (g p : Nat) (cs : List CM) (k : Nat), St w0 wa g s p cs w → Ops w0 → 1 ≤ k → k ≤ 6 → p ≤ s.size → cs.length ≤ p → need s.data.toList (.joins k) p ≤ n →
  Calls Tryd.prog 23 #[rp g, .int .i64 k] w (RPost w0 wa g s (D s.data.toList n (.joins k) p cs))
def AH (s : ByteArray) (n : Nat) : Prop := ∀ (w0 wa w : World) (g p : Nat) (cs : List CM), St w0 wa g s p cs w → Ops w0 → p ≤ s.size → cs.length ≤ p → need s.data.toList .ahead p ≤ n →
  Calls Tryd.prog 35 #[rp g] w (RPost w0 wa g s (D s.data.toList n .ahead p cs))

theorem sz (s : ByteArray) : s.data.toList.length = s.size := (Lib.size_eq s).symm

theorem inside_any {s : ByteArray} {n : Nat} (hJ : JH s n) {w0 wa w : World} {g p : Nat} {cs : List CM} (h : St w0 wa g s p cs w) (hO : Ops w0) (hp : p + 1 ≤ s.size) (hs : s.size ≤ 600) (hc : cs.length ≤ p) (hn : need s.data.toList (.joins 1) (p + 1) ≤ n) :
    Calls Tryd.prog 54 #[rp g] w (RPost w0 wa g s (closeD s.data.toList (D s.data.toList n (.joins 1) (p + 1) cs))) := by
  have HS := Lib.hid (h.setAt ((p : Int) + 1) (p' := p + 1) (by omega))
  have HJ := Lib.hid (hJ w0 wa _ g (p + 1) cs 1 HS.out hO (by omega) (by omega) hp (by omega) hn)
  have hgo := goes s.data.toList n (.joins 1) (p + 1) cs (by rw [sz]; exact hp)
  obtain ⟨b, p1, cs1, hr⟩ : ∃ b p1 cs1, D s.data.toList n (.joins 1) (p + 1) cs = (b, p1, cs1) := ⟨_, _, _, rfl⟩
  rw [hr] at HJ hgo ⊢
  have hp1 : p1 ≤ s.size := by have := hgo.le; rw [sz] at this; exact this
  obtain ⟨v, ⟨c0, c1, c2, f1, f2⟩, hbox, hown⟩ := h.at_
  clear hbox hown h hr hgo hJ
  unfold rp at *
  cases b
  · go_enter Tryd.func54, Tryd.ntmps54
    go_wp2_with fail
    refine HJ.out.mono ?_
    rintro e w1 ⟨rfl, h1⟩
    have H1 := Lib.hid h1; clear h1
    go_wp2
    go_ret
    exact ⟨rfl, H1.out⟩
  · go_enter Tryd.func54, Tryd.ntmps54
    go_wp2_with fail
    refine HJ.out.mono ?_
    rintro e w1 ⟨rfl, h1⟩
    have H1 := Lib.hid h1; clear h1
    go_wp2_with fail
    refine (closed_any H1.out hp1 hs).mono ?_
    rintro e w2 ⟨rfl, h2⟩
    have H2 := Lib.hid h2; clear h2
    go_wp2
    go_ret
    exact ⟨rfl, H2.out⟩

/-- behind an append of one cell, the world's cell of the reader's list -/
theorem push_far {w w1 : World} {g b : Nat} {x v : Value} {o : Array Value} (hgrow : (w.alloc (.cells o b)).grownBy w1 v.ownBlock) (hg : g < w.heap.size) (hne : v.ownBlock ≠ some g) (hc : w.cell? ⟨g, 2, none⟩ = some x) (hf : w.frozen? ⟨g, 2, none⟩ = false) :
    w1.cell? ⟨g, 2, none⟩ = some x ∧ w1.frozen? ⟨g, 2, none⟩ = false :=
  ⟨(hgrow.cell_far ⟨g, 2, none⟩ (by simp; omega) (Ne.symm hne)).trans ((World.cell?_alloc_lt w _ _ hg).trans hc), (hgrow.frozen_far ⟨g, 2, none⟩ (by simp; omega) (Ne.symm hne)).trans ((World.frozen?_alloc_past _ g 2 hg).trans hf)⟩

set_option maxHeartbeats 1000000 in
set_option maxRecDepth 100000 in
theorem part_any {s : ByteArray} {n : Nat} (hJ : JH s n) {w0 wa w : World} {g p : Nat} {cs : List CM} (h : St w0 wa g s p cs w) (hO : Ops w0) (wd : ByteArray) (o : Int) (hwd : wd.size = 2) (hp : p + 3 ≤ s.size) (hs : s.size ≤ 600) (hc : cs.length ≤ p) (hn : need s.data.toList (.joins 1) (p + 3) ≤ n) :
    Calls Tryd.prog 60 #[rp g, .string wd, .int .i64 o] w (RPost w0 wa g s (addD o (closeD s.data.toList (D s.data.toList n (.joins 1) (p + 3) cs)))) := by
  have HS := Lib.hid (h.setAt ((p : Int) + 2) (p' := p + 2) (by omega))
  have HJ := Lib.hid (inside_any hJ HS.out hO (p := p + 2) hp hs (by omega) hn)
  have hgo := goes s.data.toList n (.joins 1) (p + 3) cs (by rw [sz]; exact hp)
  have hfew := few s.data.toList n (.joins 1) (p + 3) cs (by rw [sz]; exact hp) (by simp)
  have hgc := goes_close (s := s.data.toList) (p := p) (r := D s.data.toList n (.joins 1) (p + 3) cs) (by have := hgo.ge; omega) hgo.le
  have hfc := few_close (s := s.data.toList) hfew
  obtain ⟨b, p1, cs1, hr⟩ : ∃ b p1 cs1, closeD s.data.toList (D s.data.toList n (.joins 1) (p + 3) cs) = (b, p1, cs1) := ⟨_, _, _, rfl⟩
  rw [hr] at HJ hgc hfc ⊢
  have hp1 : p1 ≤ s.size := by have := hgc.le; rw [sz] at this; exact this
  obtain ⟨v, ⟨c0, c1, c2, f1, f2⟩, hbox, hown⟩ := h.at_
  obtain ⟨i0, hi0, hz0, hz1, hz2⟩ := info_parts Tryd.infoCell
  have HI := Lib.hid hi0; have HZ0 := Lib.hid hz0; have HZ1 := Lib.hid hz1; have HZ2 := Lib.hid hz2
  clear hi0 hz0 hz1 hz2 hbox hown h hr hgo hJ hfew hgc
  unfold rp at *
  cases b
  · clear hfc
    go_enter Tryd.func60, Tryd.ntmps60
    go_wp2_with fail
    refine HJ.out.mono ?_
    rintro e w1 ⟨rfl, h1⟩
    have H1 := Lib.hid h1; clear h1
    go_wp2
    go_ret
    exact ⟨rfl, H1.out⟩
  · have hfc : cs1.length ≤ 600 := by have := hfc rfl; simp only at this; omega
    go_enter Tryd.func60, Tryd.ntmps60
    go_wp2_with fail
    refine HJ.out.mono ?_
    rintro e w1 ⟨rfl, h1⟩
    clear c0 c1 c2 f1 f2
    obtain ⟨v1, ⟨c0, c1, c2, f1, f2⟩, hbox, hown⟩ := h1.at_
    have H1 := Lib.hid h1; have HBX := Lib.hid hbox; have HOWN := Lib.hid hown; have HNE := Lib.hid (own_ne hown hbox)
    have hgl := h1.lt
    have hWs := h1.size
    clear h1 hbox hown
    go_wp2_with (at_builtin; refine wpList_append_own _ rfl _ _ 22 rfl w0.heap.size 38 i0 _ 3 32 Tryd.underlying22 HI.out HZ0.out HZ1.out HZ2.out rfl (by decide) v1 cs1.length (flat cs1) rfl (HOWN.out.alloc _) ⟨w1.heap.size, 0, none⟩ 1 1 (cellV (opC o)) rfl rfl (one_wide w1 _ _ _ _) (one_vals (opC o)) (by unfold maxLen; omega) (by omega) (by simp; omega) ?_)
    intro v' w2 hown' hgrow _
    obtain ⟨gg, cap, rfl, _, _⟩ := hown'.form (by omega)
    obtain ⟨k2, kf2⟩ := push_far hgrow hgl HNE.out c2 f2
    have HH : Hid (St w0 wa g s p1 (cs1 ++ [opC o]) (w2.setCell ⟨g, 2, none⟩ (.slice (some ⟨gg, 0, none⟩) (cs1.length + 1) cap))) := by
      refine H1.out.push HBX.out HOWN.out (w1 := w1.alloc (.cells #[.int .i64 (opC o).op, .int .i64 (opC o).a, bstr (opC o).nm] 38)) ((Below.refl _ _).alloc (Nat.le_refl _) _) ?_ hgrow
      rw [flat_append, flat_one, List.length_append]
      exact hown'
    clear hown' hgrow
    go_wp2
    go_ret
    exact ⟨rfl, HH.out⟩
end Go.Proofs.YtfgocdeaanalgaaDoor
