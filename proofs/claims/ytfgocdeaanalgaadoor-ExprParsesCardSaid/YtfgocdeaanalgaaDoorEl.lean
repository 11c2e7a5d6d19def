/- The reader's call ahead, given joins and itself. -/
import Derived.Test.YtfgocdeaanalgaaDoorEk
namespace Go.Proofs.YtfgocdeaanalgaaDoor
open Go.RowKit

set_option maxRecDepth 100000 in
set_option maxHeartbeats 1000000 in
theorem ahead_neg {s : ByteArray} {n : Nat} (hA : AH s n) {w0 wa w : World} {g p : Nat} {cs : List CM} (h : St w0 wa g s p cs w) (hO : Ops w0) (hb : nx s.data.toList p = 45) (hs : s.size ≤ 600) (hc : cs.length ≤ p) (hn : need s.data.toList .ahead p ≤ n + 1) :
    Calls Tryd.prog 35 #[rp g] w (RPost w0 wa g s (addD 7 (D s.data.toList n .ahead (p + 1) cs))) := by
  have hlt := nx_lt (s := s.data.toList) (p := p) (by rw [hb]; decide)
  have hnd : need s.data.toList .ahead (p + 1) ≤ n := by simp only [need] at *; omega
  rw [sz] at hlt
  have HX := Lib.hid (next_any h (by omega))
  have HS : Hid (∀ m, St w0 wa g s (p + 1) cs ((w.drewN m).setCell ⟨g, 1, none⟩ (.int .i64 ((p : Int) + 1)))) := fun m => (h.drewN m).setAt _ (by omega)
  have HJ : Hid (∀ m, Calls Tryd.prog 35 #[rp g] ((w.drewN m).setCell ⟨g, 1, none⟩ (.int .i64 ((p : Int) + 1))) (RPost w0 wa g s (D s.data.toList n .ahead (p + 1) cs))) := fun m => hA w0 wa _ g (p + 1) cs (HS.out m) hO hlt (by omega) hnd
  have hgo := goes s.data.toList n .ahead (p + 1) cs (by rw [sz]; exact hlt)
  have hfew := few s.data.toList n .ahead (p + 1) cs (by rw [sz]; exact hlt) trivial
  obtain ⟨b, p1, cs1, hr⟩ : ∃ b p1 cs1, D s.data.toList n .ahead (p + 1) cs = (b, p1, cs1) := ⟨_, _, _, rfl⟩
  rw [hr] at HJ hgo hfew ⊢
  have hp1 : p1 ≤ s.size := by have := hgo.le; rw [sz] at this; exact this
  have t40 : ((nx s.data.toList p).toNat : Int) = 45 := by rw [hb]; rfl
  have HT := Lib.hid t40
  obtain ⟨v, ⟨c0, c1, c2, f1, f2⟩, hbox, hown⟩ := h.at_
  obtain ⟨i0, hi0, hz0, hz1, hz2⟩ := info_parts Tryd.infoCell
  have HI := Lib.hid hi0; have HZ0 := Lib.hid hz0; have HZ1 := Lib.hid hz1; have HZ2 := Lib.hid hz2
  clear hi0 hz0 hz1 hz2 hbox hown h hr hgo t40 hb hA HS
  unfold rp at *
  cases b
  · clear hfew
    go_enter Tryd.func35, Tryd.ntmps35
    go_wp2_with fail
    refine HX.out.mono ?_
    rintro e w1 ⟨rfl, m, rfl⟩
    rw [HT.out]
    go_wp2_with fail
    refine (HJ.out m).mono ?_
    rintro e w1 ⟨rfl, h1⟩
    have H1 := Lib.hid h1; clear h1
    go_wp2
    go_ret
    exact ⟨rfl, H1.out⟩
  · have hfc : cs1.length ≤ 600 := by have := hfew rfl; simp only at this; omega
    clear hfew
    go_enter Tryd.func35, Tryd.ntmps35
    go_wp2_with fail
    refine HX.out.mono ?_
    rintro e w1 ⟨rfl, m, rfl⟩
    rw [HT.out]
    go_wp2_with fail
    refine (HJ.out m).mono ?_
    rintro e w1 ⟨rfl, h1⟩
    clear c0 c1 c2 f1 f2
    obtain ⟨v1, ⟨c0, c1, c2, f1, f2⟩, hbox, hown⟩ := h1.at_
    have H1 := Lib.hid h1; have HBX := Lib.hid hbox; have HOWN := Lib.hid hown; have HNE := Lib.hid (own_ne hown hbox)
    have hgl := h1.lt
    have hWs := h1.size
    clear h1 hbox hown
    go_wp2_with (at_builtin; refine wpList_append_own _ rfl _ _ 22 rfl w0.heap.size 38 i0 _ 3 32 Tryd.underlying22 HI.out HZ0.out HZ1.out HZ2.out rfl (by decide) v1 cs1.length (flat cs1) rfl (HOWN.out.alloc _) ⟨w1.heap.size, 0, none⟩ 1 1 (cellV (opC 7)) rfl rfl (one_wide w1 _ _ _ _) (one_vals (opC 7)) (by unfold maxLen; omega) (by omega) (by simp; omega) ?_)
    intro v' w2 hown' hgrow _
    obtain ⟨gg, cap, rfl, _, _⟩ := hown'.form (by omega)
    obtain ⟨k2, kf2⟩ := push_far hgrow hgl HNE.out c2 f2
    have HH : Hid (St w0 wa g s p1 (cs1 ++ [opC 7]) (w2.setCell ⟨g, 2, none⟩ (.slice (some ⟨gg, 0, none⟩) (cs1.length + 1) cap))) := by
      refine H1.out.push HBX.out HOWN.out (w1 := w1.alloc (.cells #[.int .i64 (opC 7).op, .int .i64 (opC 7).a, bstr (opC 7).nm] 38)) ((Below.refl _ _).alloc (Nat.le_refl _) _) ?_ hgrow
      rw [flat_append, flat_one, List.length_append]
      exact hown'
    clear hown' hgrow
    go_wp2
    go_ret
    exact ⟨rfl, HH.out⟩

set_option maxRecDepth 100000 in
set_option maxHeartbeats 1000000 in
theorem ahead_not {s : ByteArray} {n : Nat} (hA : AH s n) {w0 wa w : World} {g p : Nat} {cs : List CM} (h : St w0 wa g s p cs w) (hO : Ops w0) (hb : nx s.data.toList p = 33) (hs : s.size ≤ 600) (hc : cs.length ≤ p) (hn : need s.data.toList .ahead p ≤ n + 1) :
    Calls Tryd.prog 35 #[rp g] w (RPost w0 wa g s (addD 8 (D s.data.toList n .ahead (p + 1) cs))) := by
  have hlt := nx_lt (s := s.data.toList) (p := p) (by rw [hb]; decide)
  have hnd : need s.data.toList .ahead (p + 1) ≤ n := by simp only [need] at *; omega
  rw [sz] at hlt
  have HX := Lib.hid (next_any h (by omega))
  have HS : Hid (∀ m, St w0 wa g s (p + 1) cs ((w.drewN m).setCell ⟨g, 1, none⟩ (.int .i64 ((p : Int) + 1)))) := fun m => (h.drewN m).setAt _ (by omega)
  have HJ : Hid (∀ m, Calls Tryd.prog 35 #[rp g] ((w.drewN m).setCell ⟨g, 1, none⟩ (.int .i64 ((p : Int) + 1))) (RPost w0 wa g s (D s.data.toList n .ahead (p + 1) cs))) := fun m => hA w0 wa _ g (p + 1) cs (HS.out m) hO hlt (by omega) hnd
  have hgo := goes s.data.toList n .ahead (p + 1) cs (by rw [sz]; exact hlt)
  have hfew := few s.data.toList n .ahead (p + 1) cs (by rw [sz]; exact hlt) trivial
  obtain ⟨b, p1, cs1, hr⟩ : ∃ b p1 cs1, D s.data.toList n .ahead (p + 1) cs = (b, p1, cs1) := ⟨_, _, _, rfl⟩
  rw [hr] at HJ hgo hfew ⊢
  have hp1 : p1 ≤ s.size := by have := hgo.le; rw [sz] at this; exact this
  have t40 : ((nx s.data.toList p).toNat : Int) = 33 := by rw [hb]; rfl
  have HT := Lib.hid t40
  obtain ⟨v, ⟨c0, c1, c2, f1, f2⟩, hbox, hown⟩ := h.at_
  obtain ⟨i0, hi0, hz0, hz1, hz2⟩ := info_parts Tryd.infoCell
  have HI := Lib.hid hi0; have HZ0 := Lib.hid hz0; have HZ1 := Lib.hid hz1; have HZ2 := Lib.hid hz2
  clear hi0 hz0 hz1 hz2 hbox hown h hr hgo t40 hb hA HS
  unfold rp at *
  cases b
  · clear hfew
    go_enter Tryd.func35, Tryd.ntmps35
    go_wp2_with fail
    refine HX.out.mono ?_
    rintro e w1 ⟨rfl, m, rfl⟩
    rw [HT.out]
    go_wp2_with fail
    refine (HJ.out m).mono ?_
    rintro e w1 ⟨rfl, h1⟩
    have H1 := Lib.hid h1; clear h1
    go_wp2
    go_ret
    exact ⟨rfl, H1.out⟩
  · have hfc : cs1.length ≤ 600 := by have := hfew rfl; simp only at this; omega
    clear hfew
    go_enter Tryd.func35, Tryd.ntmps35
    go_wp2_with fail
    refine HX.out.mono ?_
    rintro e w1 ⟨rfl, m, rfl⟩
    rw [HT.out]
    go_wp2_with fail
    refine (HJ.out m).mono ?_
    rintro e w1 ⟨rfl, h1⟩
    clear c0 c1 c2 f1 f2
    obtain ⟨v1, ⟨c0, c1, c2, f1, f2⟩, hbox, hown⟩ := h1.at_
    have H1 := Lib.hid h1; have HBX := Lib.hid hbox; have HOWN := Lib.hid hown; have HNE := Lib.hid (own_ne hown hbox)
    have hgl := h1.lt
    have hWs := h1.size
    clear h1 hbox hown
    go_wp2_with (at_builtin; refine wpList_append_own _ rfl _ _ 22 rfl w0.heap.size 38 i0 _ 3 32 Tryd.underlying22 HI.out HZ0.out HZ1.out HZ2.out rfl (by decide) v1 cs1.length (flat cs1) rfl (HOWN.out.alloc _) ⟨w1.heap.size, 0, none⟩ 1 1 (cellV (opC 8)) rfl rfl (one_wide w1 _ _ _ _) (one_vals (opC 8)) (by unfold maxLen; omega) (by omega) (by simp; omega) ?_)
    intro v' w2 hown' hgrow _
    obtain ⟨gg, cap, rfl, _, _⟩ := hown'.form (by omega)
    obtain ⟨k2, kf2⟩ := push_far hgrow hgl HNE.out c2 f2
    have HH : Hid (St w0 wa g s p1 (cs1 ++ [opC 8]) (w2.setCell ⟨g, 2, none⟩ (.slice (some ⟨gg, 0, none⟩) (cs1.length + 1) cap))) := by
      refine H1.out.push HBX.out HOWN.out (w1 := w1.alloc (.cells #[.int .i64 (opC 8).op, .int .i64 (opC 8).a, bstr (opC 8).nm] 38)) ((Below.refl _ _).alloc (Nat.le_refl _) _) ?_ hgrow
      rw [flat_append, flat_one, List.length_append]
      exact hown'
    clear hown' hgrow
    go_wp2
    go_ret
    exact ⟨rfl, HH.out⟩

theorem operand_any {s : ByteArray} {n : Nat} (hJ : JH s n) {w0 wa w : World} {g p : Nat} {cs : List CM} (h : St w0 wa g s p cs w) (hO : Ops w0) (hp : p ≤ s.size) (hs : s.size ≤ 600) (hc : cs.length ≤ p) (hn : need s.data.toList .ahead p ≤ n + 1) :
    Calls Tryd.prog 48 #[rp g] w (RPost w0 wa g s (operandD s.data.toList n p cs)) := by
  unfold operandD
  by_cases h40 : nx s.data.toList p = 40
  · rw [if_pos h40]; exact operand_paren hJ h hO h40 hs hc hn
  · rw [if_neg h40]
    cases hd : isD (nx s.data.toList p)
    · rw [if_neg (by decide)]; exact operand_word hJ h hO h40 hd hp hs hc hn
    · rw [if_pos rfl]; exact operand_num h hd hs hc

theorem ahead_any {s : ByteArray} {n : Nat} (hs : s.size ≤ 600) (hJ : JH s n) (hA : AH s n) : AH s (n + 1) := by
  intro w0 wa w g p cs h hO hp hc hn
  rw [D_ahead]
  by_cases h45 : nx s.data.toList p = 45
  · rw [if_pos h45]; exact ahead_neg hA h hO h45 hs hc hn
  · rw [if_neg h45]
    by_cases h33 : nx s.data.toList p = 33
    · rw [if_pos h33]; exact ahead_not hA h hO h33 hs hc hn
    · rw [if_neg h33]
      have HX := Lib.hid (next_any h hp)
      have HI : Hid (∀ m, Calls Tryd.prog 48 #[rp g] (w.drewN m) (RPost w0 wa g s (operandD s.data.toList n p cs))) := fun m => operand_any hJ (h.drewN m) hO hp hs hc hn
      change Calls Tryd.prog 35 #[rp g] w (RPost w0 wa g s (operandD s.data.toList n p cs))
      generalize operandD s.data.toList n p cs = R at HI ⊢
      have t45 : (((nx s.data.toList p).toNat : Int) == 45) = false := byte_not (k := 45) (by decide) h45
      have t33 : (((nx s.data.toList p).toNat : Int) == 33) = false := byte_not (k := 33) (by decide) h33
      clear h h45 h33 hJ hA
      unfold rp at *
      go_enter Tryd.func35, Tryd.ntmps35
      go_wp2_with fail
      refine HX.out.mono ?_
      rintro e w1 ⟨rfl, m, rfl⟩
      go_wp2_with fail
      refine (HI.out m).mono ?_
      rintro e w1 ⟨rfl, h1⟩
      have H1 := Lib.hid h1; clear h1
      go_wp2
      go_ret
      exact ⟨rfl, H1.out⟩
end Go.Proofs.YtfgocdeaanalgaaDoor
