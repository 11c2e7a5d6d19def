/- Own texts, joined: El, Em, En, Ep, Er. -/
import Derived.Test.YtjgfkmakfdepcaaGreatDoorP6
namespace Go.Proofs.YtjgfkmakfdepcaaGreatDoor
open Go.RowKit

set_option maxRecDepth 100000 in
set_option maxHeartbeats 1000000 in
theorem ahead_neg {s : ByteArray} {n : Nat} (hA : AH s n) {w0 wa w : World} {g p : Nat} {cs : List CM} (h : St w0 wa g s p cs w) (hO : Ops w0) (hb : nx s.data.toList p = 45) (hs : s.size ≤ 600) (hc : cs.length ≤ p) (hn : need s.data.toList .ahead p ≤ n + 1) :
    Calls Tryz.prog 116 #[rp g] w (RPost w0 wa g s (addD 7 (D s.data.toList n .ahead (p + 1) cs))) := by
  have hlt := nx_lt (s := s.data.toList) (p := p) (by rw [hb]; decide)
  have hnd : need s.data.toList .ahead (p + 1) ≤ n := by simp only [need] at *; omega
  rw [sz] at hlt
  have HX := Lib.hid (next_any h (by omega))
  have HS : Hid (∀ m, St w0 wa g s (p + 1) cs ((w.drewN m).setCell ⟨g, 1, none⟩ (.int .i64 ((p : Int) + 1)))) := fun m => (h.drewN m).setAt _ (by omega)
  have HJ : Hid (∀ m, Calls Tryz.prog 116 #[rp g] ((w.drewN m).setCell ⟨g, 1, none⟩ (.int .i64 ((p : Int) + 1))) (RPost w0 wa g s (D s.data.toList n .ahead (p + 1) cs))) := fun m => hA w0 wa _ g (p + 1) cs (HS.out m) hO hlt (by omega) hnd
  have hgo := goes s.data.toList n .ahead (p + 1) cs (by rw [sz]; exact hlt)
  have hfew := few s.data.toList n .ahead (p + 1) cs (by rw [sz]; exact hlt) trivial
  obtain ⟨b, p1, cs1, hr⟩ : ∃ b p1 cs1, D s.data.toList n .ahead (p + 1) cs = (b, p1, cs1) := ⟨_, _, _, rfl⟩
  rw [hr] at HJ hgo hfew ⊢
  have hp1 : p1 ≤ s.size := by have := hgo.le; rw [sz] at this; exact this
  have t40 : ((nx s.data.toList p).toNat : Int) = 45 := by rw [hb]; rfl
  have HT := Lib.hid t40
  obtain ⟨v, ⟨c0, c1, c2, f1, f2⟩, hbox, hown⟩ := h.at_
  obtain ⟨i0, hi0, hz0, hz1, hz2⟩ := info_parts Tryz.infoCell
  have HI := Lib.hid hi0; have HZ0 := Lib.hid hz0; have HZ1 := Lib.hid hz1; have HZ2 := Lib.hid hz2
  clear hi0 hz0 hz1 hz2 hbox hown h hr hgo t40 hb hA HS
  unfold rp at *
  cases b
  · clear hfew
    go_enter Tryz.func116, Tryz.ntmps116
    go_wp2_with fail
    refine HX.out.mono ?_
    rintro e w1 ⟨rfl, m, rfl⟩
    rw [HT.out]
    go_wp2_with fail
    refine (HJ.out m).mono ?_
    rintro e w1 ⟨rfl, h1⟩
    have H1 := Lib.hid h1; clear h1
    go_wp2
    go_ret
    exact ⟨rfl, H1.out⟩
  · have hfc : cs1.length ≤ 600 := by have := hfew rfl; simp only at this; omega
    clear hfew
    go_enter Tryz.func116, Tryz.ntmps116
    go_wp2_with fail
    refine HX.out.mono ?_
    rintro e w1 ⟨rfl, m, rfl⟩
    rw [HT.out]
    go_wp2_with fail
    refine (HJ.out m).mono ?_
    rintro e w1 ⟨rfl, h1⟩
    clear c0 c1 c2 f1 f2
    obtain ⟨v1, ⟨c0, c1, c2, f1, f2⟩, hbox, hown⟩ := h1.at_
    have H1 := Lib.hid h1; have HBX := Lib.hid hbox; have HOWN := Lib.hid hown; have HNE := Lib.hid (own_ne hown hbox)
    have hgl := h1.lt
    have hWs := h1.size
    clear h1 hbox hown
    go_wp2_with (at_builtin; refine wpList_append_own _ rfl _ _ 57 rfl w0.heap.size 93 i0 _ 3 32 Tryz.underlying57 HI.out HZ0.out HZ1.out HZ2.out rfl (by decide) v1 cs1.length (flat cs1) rfl (HOWN.out.alloc _) ⟨w1.heap.size, 0, none⟩ 1 1 (cellV (opC 7)) rfl rfl (one_wide w1 _ _ _ _) (one_vals (opC 7)) (by unfold maxLen; omega) (by omega) (by simp; omega) ?_)
    intro v' w2 hown' hgrow _
    obtain ⟨gg, cap, rfl, _, _⟩ := hown'.form (by omega)
    obtain ⟨k2, kf2⟩ := push_far hgrow hgl HNE.out c2 f2
    have HH : Hid (St w0 wa g s p1 (cs1 ++ [opC 7]) (w2.setCell ⟨g, 2, none⟩ (.slice (some ⟨gg, 0, none⟩) (cs1.length + 1) cap))) := by
      refine H1.out.push HBX.out HOWN.out (w1 := w1.alloc (.cells #[.int .i64 (opC 7).op, .int .i64 (opC 7).a, bstr (opC 7).nm] 93)) ((Below.refl _ _).alloc (Nat.le_refl _) _) ?_ hgrow
      rw [flat_append, flat_one, List.length_append]
      exact hown'
    clear hown' hgrow
    go_wp2
    go_ret
    exact ⟨rfl, HH.out⟩

set_option maxRecDepth 100000 in
set_option maxHeartbeats 1000000 in
theorem ahead_not {s : ByteArray} {n : Nat} (hA : AH s n) {w0 wa w : World} {g p : Nat} {cs : List CM} (h : St w0 wa g s p cs w) (hO : Ops w0) (hb : nx s.data.toList p = 33) (hs : s.size ≤ 600) (hc : cs.length ≤ p) (hn : need s.data.toList .ahead p ≤ n + 1) :
    Calls Tryz.prog 116 #[rp g] w (RPost w0 wa g s (addD 8 (D s.data.toList n .ahead (p + 1) cs))) := by
  have hlt := nx_lt (s := s.data.toList) (p := p) (by rw [hb]; decide)
  have hnd : need s.data.toList .ahead (p + 1) ≤ n := by simp only [need] at *; omega
  rw [sz] at hlt
  have HX := Lib.hid (next_any h (by omega))
  have HS : Hid (∀ m, St w0 wa g s (p + 1) cs ((w.drewN m).setCell ⟨g, 1, none⟩ (.int .i64 ((p : Int) + 1)))) := fun m => (h.drewN m).setAt _ (by omega)
  have HJ : Hid (∀ m, Calls Tryz.prog 116 #[rp g] ((w.drewN m).setCell ⟨g, 1, none⟩ (.int .i64 ((p : Int) + 1))) (RPost w0 wa g s (D s.data.toList n .ahead (p + 1) cs))) := fun m => hA w0 wa _ g (p + 1) cs (HS.out m) hO hlt (by omega) hnd
  have hgo := goes s.data.toList n .ahead (p + 1) cs (by rw [sz]; exact hlt)
  have hfew := few s.data.toList n .ahead (p + 1) cs (by rw [sz]; exact hlt) trivial
  obtain ⟨b, p1, cs1, hr⟩ : ∃ b p1 cs1, D s.data.toList n .ahead (p + 1) cs = (b, p1, cs1) := ⟨_, _, _, rfl⟩
  rw [hr] at HJ hgo hfew ⊢
  have hp1 : p1 ≤ s.size := by have := hgo.le; rw [sz] at this; exact this
  have t40 : ((nx s.data.toList p).toNat : Int) = 33 := by rw [hb]; rfl
  have HT := Lib.hid t40
  obtain ⟨v, ⟨c0, c1, c2, f1, f2⟩, hbox, hown⟩ := h.at_
  obtain ⟨i0, hi0, hz0, hz1, hz2⟩ := info_parts Tryz.infoCell
  have HI := Lib.hid hi0; have HZ0 := Lib.hid hz0; have HZ1 := Lib.hid hz1; have HZ2 := Lib.hid hz2
  clear hi0 hz0 hz1 hz2 hbox hown h hr hgo t40 hb hA HS
  unfold rp at *
  cases b
  · clear hfew
    go_enter Tryz.func116, Tryz.ntmps116
    go_wp2_with fail
    refine HX.out.mono ?_
    rintro e w1 ⟨rfl, m, rfl⟩
    rw [HT.out]
    go_wp2_with fail
    refine (HJ.out m).mono ?_
    rintro e w1 ⟨rfl, h1⟩
    have H1 := Lib.hid h1; clear h1
    go_wp2
    go_ret
    exact ⟨rfl, H1.out⟩
  · have hfc : cs1.length ≤ 600 := by have := hfew rfl; simp only at this; omega
    clear hfew
    go_enter Tryz.func116, Tryz.ntmps116
    go_wp2_with fail
    refine HX.out.mono ?_
    rintro e w1 ⟨rfl, m, rfl⟩
    rw [HT.out]
    go_wp2_with fail
    refine (HJ.out m).mono ?_
    rintro e w1 ⟨rfl, h1⟩
    clear c0 c1 c2 f1 f2
    obtain ⟨v1, ⟨c0, c1, c2, f1, f2⟩, hbox, hown⟩ := h1.at_
    have H1 := Lib.hid h1; have HBX := Lib.hid hbox; have HOWN := Lib.hid hown; have HNE := Lib.hid (own_ne hown hbox)
    have hgl := h1.lt
    have hWs := h1.size
    clear h1 hbox hown
    go_wp2_with (at_builtin; refine wpList_append_own _ rfl _ _ 57 rfl w0.heap.size 93 i0 _ 3 32 Tryz.underlying57 HI.out HZ0.out HZ1.out HZ2.out rfl (by decide) v1 cs1.length (flat cs1) rfl (HOWN.out.alloc _) ⟨w1.heap.size, 0, none⟩ 1 1 (cellV (opC 8)) rfl rfl (one_wide w1 _ _ _ _) (one_vals (opC 8)) (by unfold maxLen; omega) (by omega) (by simp; omega) ?_)
    intro v' w2 hown' hgrow _
    obtain ⟨gg, cap, rfl, _, _⟩ := hown'.form (by omega)
    obtain ⟨k2, kf2⟩ := push_far hgrow hgl HNE.out c2 f2
    have HH : Hid (St w0 wa g s p1 (cs1 ++ [opC 8]) (w2.setCell ⟨g, 2, none⟩ (.slice (some ⟨gg, 0, none⟩) (cs1.length + 1) cap))) := by
      refine H1.out.push HBX.out HOWN.out (w1 := w1.alloc (.cells #[.int .i64 (opC 8).op, .int .i64 (opC 8).a, bstr (opC 8).nm] 93)) ((Below.refl _ _).alloc (Nat.le_refl _) _) ?_ hgrow
      rw [flat_append, flat_one, List.length_append]
      exact hown'
    clear hown' hgrow
    go_wp2
    go_ret
    exact ⟨rfl, HH.out⟩

theorem operand_any {s : ByteArray} {n : Nat} (hJ : JH s n) {w0 wa w : World} {g p : Nat} {cs : List CM} (h : St w0 wa g s p cs w) (hO : Ops w0) (hp : p ≤ s.size) (hs : s.size ≤ 600) (hc : cs.length ≤ p) (hn : need s.data.toList .ahead p ≤ n + 1) :
    Calls Tryz.prog 135 #[rp g] w (RPost w0 wa g s (operandD s.data.toList n p cs)) := by
  unfold operandD
  by_cases h40 : nx s.data.toList p = 40
  · rw [if_pos h40]; exact operand_paren hJ h hO h40 hs hc hn
  · rw [if_neg h40]
    cases hd : isD (nx s.data.toList p)
    · rw [if_neg (by decide)]; exact operand_word hJ h hO h40 hd hp hs hc hn
    · rw [if_pos rfl]; exact operand_num h hd hs hc

theorem ahead_any {s : ByteArray} {n : Nat} (hs : s.size ≤ 600) (hJ : JH s n) (hA : AH s n) : AH s (n + 1) := by
  intro w0 wa w g p cs h hO hp hc hn
  rw [D_ahead]
  by_cases h45 : nx s.data.toList p = 45
  · rw [if_pos h45]; exact ahead_neg hA h hO h45 hs hc hn
  · rw [if_neg h45]
    by_cases h33 : nx s.data.toList p = 33
    · rw [if_pos h33]; exact ahead_not hA h hO h33 hs hc hn
    · rw [if_neg h33]
      have HX := Lib.hid (next_any h hp)
      have HI : Hid (∀ m, Calls Tryz.prog 135 #[rp g] (w.drewN m) (RPost w0 wa g s (operandD s.data.toList n p cs))) := fun m => operand_any hJ (h.drewN m) hO hp hs hc hn
      change Calls Tryz.prog 116 #[rp g] w (RPost w0 wa g s (operandD s.data.toList n p cs))
      generalize operandD s.data.toList n p cs = R at HI ⊢
      have t45 : (((nx s.data.toList p).toNat : Int) == 45) = false := byte_not (k := 45) (by decide) h45
      have t33 : (((nx s.data.toList p).toNat : Int) == 33) = false := byte_not (k := 33) (by decide) h33
      clear h h45 h33 hJ hA
      unfold rp at *
      go_enter Tryz.func116, Tryz.ntmps116
      go_wp2_with fail
      refine HX.out.mono ?_
      rintro e w1 ⟨rfl, m, rfl⟩
      go_wp2_with fail
      refine (HI.out m).mono ?_
      rintro e w1 ⟨rfl, h1⟩
      have H1 := Lib.hid h1; clear h1
      go_wp2
      go_ret
      exact ⟨rfl, H1.out⟩
end Go.Proofs.YtjgfkmakfdepcaaGreatDoor
namespace Go.Proofs.YtjgfkmakfdepcaaGreatDoor
open Go.RowKit

/-- the place that the reader's block tells -/
def placeOf (g : Nat) (w : World) : Nat := match w.cell? ⟨g, 1, none⟩ with | some (.int _ q) => q.toNat | _ => 0
theorem St.place {w0 wa w : World} {g : Nat} {s : ByteArray} {p : Nat} {cs : List CM} (h : St w0 wa g s p cs w) : placeOf g w = p := by
  obtain ⟨v, ⟨_, c1, _⟩, _⟩ := h.at_
  unfold placeOf; rw [c1]; simp

/-- at the label: what is left of the loop comes to R -/
structure JL (s : ByteArray) (w0 wa : World) (g k n : Nat) (R : Rs) (m p : Nat) (cs : List CM) (cmp : Bool) (w : World) : Prop where
  res : D s.data.toList m (.loop k cmp) p cs = R
  nd : need s.data.toList (.loop k cmp) p ≤ m
  le : m ≤ n
  pl : p ≤ s.size
  few : cs.length ≤ p
  st : St w0 wa g s p cs w

def JAt (g k : Nat) (b : Bool) (a : Act) : Prop := ∃ u2 u3 u6 u7 u8 u9 u10 u11 u12 u13 u14 u15 u16 u17 u18 u19 u20 u21 u22 u23 u24 u25 u26 u27 u28 u29 u30 u31 u32 u33 u34 u35 u36 u37 u38 u39 u40 u41 u42 u43 u44 u45 u46 u47 u48 u49 u50 u51 : Value,  a = { tmps := #[.pointer (some ⟨g, 0, none⟩), .int .i64 k, u2, u3, .bool false, .bool b, u6, u7, u8, u9, u10, u11, u12, u13, u14, u15, u16, u17, u18, u19, u20, u21, u22, u23, u24, u25, u26, u27, u28, u29, u30, u31, u32, u33, u34, u35, u36, u37, u38, u39, u40, u41, u42, u43, u44, u45, u46, u47, u48, u49, u50, u51], defers := [] }
def JJ (s : ByteArray) (w0 wa : World) (g k n : Nat) (R : Rs) (l : Nat) (a : Act) (w : World) : Prop := l = 0 ∧ ∃ m p cs b, JL s w0 wa g k n R m p cs b w ∧ JAt g k b a

theorem RPost.of {w0 wa w : World} {g : Nat} {s : ByteArray} {b : Bool} {p : Nat} {cs : List CM} {R : Rs} (hR : R = (b, p, cs)) (h : St w0 wa g s p cs w) : RPost w0 wa g s R (.returned (.bool b)) w := by
  subst hR; exact ⟨rfl, h⟩

theorem push_far_drew {w w1 : World} {g b : Nat} {x v : Value} {o : Array Value} (hgrow : (w.alloc (.cells o b)).drew.grownBy w1 v.ownBlock) (hg : g < w.heap.size) (hne : v.ownBlock ≠ some g) (hc : w.cell? ⟨g, 2, none⟩ = some x) (hf : w.frozen? ⟨g, 2, none⟩ = false) :
    w1.cell? ⟨g, 2, none⟩ = some x ∧ w1.frozen? ⟨g, 2, none⟩ = false :=
  ⟨(hgrow.cell_far ⟨g, 2, none⟩ (by simp; omega) (Ne.symm hne)).trans ((World.cell?_alloc_lt w _ _ hg).trans hc), (hgrow.frozen_far ⟨g, 2, none⟩ (by simp; omega) (Ne.symm hne)).trans ((World.frozen?_alloc_past _ g 2 hg).trans hf)⟩

theorem joins_six {s : ByteArray} {n : Nat} (hA : AH s n) {w0 wa w : World} {g p : Nat} {cs : List CM} (h : St w0 wa g s p cs w) (hO : Ops w0) (hp : p ≤ s.size) (hc : cs.length ≤ p) (hn : need s.data.toList (.joins 6) p ≤ n + 1) :
    Calls Tryz.prog 89 #[rp g, .int .i64 6] w (RPost w0 wa g s (D s.data.toList (n + 1) (.joins 6) p cs)) := by
  have HJ := Lib.hid (hA w0 wa _ g p cs h hO hp hc (by simp only [need] at *; omega))
  have hR : D s.data.toList (n + 1) (.joins 6) p cs = D s.data.toList n .ahead p cs := by rw [D_joins, if_pos rfl]
  rw [hR]
  clear hR h hA
  unfold rp at *
  go_enter Tryz.func89, Tryz.ntmps89
  go_wp2
  go_step3
  go_wp2_with fail
  refine HJ.out.mono ?_
  rintro e w1 ⟨rfl, h1⟩
  have H1 := Lib.hid h1; clear h1
  go_wp2
  rw [Exit.noGoto_ret]
  go_ret
  exact ⟨rfl, H1.out⟩

set_option maxRecDepth 100000 in
set_option maxHeartbeats 6000000 in
theorem joins_low {s : ByteArray} {n : Nat} (hs : s.size ≤ 600) (hJs : ∀ m, m ≤ n → JH s m) {w0 wa w : World} {g p k : Nat} {cs : List CM} (h : St w0 wa g s p cs w) (hO : Ops w0) (hk1 : 1 ≤ k) (hk6 : k < 6) (hp : p ≤ s.size) (hc : cs.length ≤ p) (hn : need s.data.toList (.joins k) p ≤ n + 1) :
    Calls Tryz.prog 89 #[rp g, .int .i64 k] w (RPost w0 wa g s (D s.data.toList (n + 1) (.joins k) p cs)) := by
  have hnd : need s.data.toList (.joins (k + 1)) p ≤ n := by simp only [need] at *; omega
  have HJ := Lib.hid (hJs n (Nat.le_refl _) w0 wa _ g p cs (k + 1) h hO (by omega) (by omega) hp hc hnd)
  have hck : ((k + 1 : Nat) : Int) = (k : Int) + 1 := by omega
  rw [hck] at HJ
  clear hck
  have hgo := goes s.data.toList n (.joins (k + 1)) p cs (by rw [sz]; exact hp)
  have hfew := few s.data.toList n (.joins (k + 1)) p cs (by rw [sz]; exact hp) (by simp)
  obtain ⟨R, hR⟩ : ∃ R, D s.data.toList (n + 1) (.joins k) p cs = R := ⟨_, rfl⟩
  rw [hR]
  rw [D_joins, if_neg (by omega)] at hR
  obtain ⟨b1, p1, cs1, hr⟩ : ∃ b p1 cs1, D s.data.toList n (.joins (k + 1)) p cs = (b, p1, cs1) := ⟨_, _, _, rfl⟩
  rw [hr] at HJ hgo hfew hR
  have hp1 : p1 ≤ s.size := by have := hgo.le; rw [sz] at this; exact this
  have hJS := Lib.hid hJs
  have HSZ := Lib.hid (sz s)
  have t6 : ((k : Int) == 6) = false := beq_eq_false_iff_ne.2 (by omega)
  unfold rp at *
  cases b1
  · have HP : Hid (R = (false, p1, cs1)) := by rw [← hR, if_neg (by simp)]; exact rfl
    clear hR h hr hgo hfew hJs
    go_enter Tryz.func89, Tryz.ntmps89
    go_wp2
    go_step3
    go_wp2_with fail
    refine HJ.out.mono ?_
    rintro e w1 ⟨rfl, h1⟩
    have H1 := Lib.hid h1; clear h1
    go_wp2
    rw [Exit.noGoto_ret]
    go_ret
    exact RPost.of HP.out H1.out
  · have hR1 : D s.data.toList n (.loop k false) p1 cs1 = R := by rw [← hR, if_pos rfl]
    have hpp : p < p1 := hgo.gt rfl
    have hcc : cs1.length ≤ p1 := by have := hfew rfl; simp only at this; omega
    have hnl : need s.data.toList (.loop k false) p1 ≤ n := by simp only [need, sz] at *; omega
    have HL : Hid (∀ w1, St w0 wa g s p1 cs1 w1 → JL s w0 wa g k n R n p1 cs1 false w1) := fun w1 h1 => ⟨hR1, hnl, Nat.le_refl _, hp1, hcc, h1⟩
    clear hR h hr hgo hfew hJs hR1 hpp hcc hnl
    go_enter Tryz.func89, Tryz.ntmps89
    go_wp2
    refine wp_scope_labels (JJ s w0 wa g k n R) (fun _ _ w' => s.size - placeOf g w') ?_ ?_
    · rintro l a w' ⟨rfl, m, q, xs, b, hL, u2, u3, u6, u7, u8, u9, u10, u11, u12, u13, u14, u15, u16, u17, u18, u19, u20, u21, u22, u23, u24, u25, u26, u27, u28, u29, u30, u31, u32, u33, u34, u35, u36, u37, u38, u39, u40, u41, u42, u43, u44, u45, u46, u47, u48, u49, u50, u51, rfl⟩
      refine ⟨_, rfl, ?_⟩
      intro H
      clear H
      obtain ⟨hres, hnd2, hmn, hpl, hfw, hst⟩ := hL
      have HOP := Lib.hid (operator_any hst (hO.below (hst.below)) hpl hs)
      have hpo := hst.place
      have HST := Lib.hid hst
      clear hst
      obtain ⟨m, rfl⟩ : ∃ m', m = m' + 1 := ⟨m - 1, by simp only [need] at hnd2; omega⟩
      rw [D_loop] at hres
      have HOF : Hid (∀ h : (opAt s.data.toList q).2.2 ≠ 0, 1 ≤ (opAt s.data.toList q).2.1 ∧ q + (opAt s.data.toList q).2.1 ≤ s.size) := by
        intro h; have := opAt_some h; rw [HSZ.out] at this; exact this
      generalize opAt s.data.toList q = oo at HOP hres HOF
      obtain ⟨oop, ol, ost⟩ := oo
      simp only at HOP hres HOF
      have HRES := Lib.hid hres; have HPO := Lib.hid hpo; have HND := Lib.hid hnd2
      clear hres hpo hnd2
      by_cases hsk : ost = k
      · subst hsk
        have HOF2 := Lib.hid (HOF.out (by omega))
        have tk : ((ost : Int) != (ost : Int)) = false := by simp
        cases b
        · have hnd3 : need s.data.toList (.joins (ost + 1)) (q + ol) ≤ m := by
            have h1 := HND.out; have h2 := HOF2.out
            simp only [need, HSZ.out] at *; omega
          have hql : q + ol ≤ s.size := HOF2.out.2
          have hol : 1 ≤ ol := HOF2.out.1
          have hgo2 := goes s.data.toList m (.joins (ost + 1)) (q + ol) xs (by rw [HSZ.out]; exact hql)
          have hfew2 := few s.data.toList m (.joins (ost + 1)) (q + ol) xs (by rw [HSZ.out]; exact hql) (by simp)
          have hRR := HRES.out
          rw [if_neg (by simp), if_neg (by simp)] at hRR
          have HJ2 : Hid (∀ w3, St w0 w3 g s (q + ol) xs w3 → Calls Tryz.prog 89 #[.pointer (some ⟨g, 0, none⟩), .int .i64 ((ost : Int) + 1)] w3 (RPost w0 w3 g s (D s.data.toList m (.joins (ost + 1)) (q + ol) xs))) := by
            intro w3 h3
            have := hJS.out m (by omega) w0 w3 w3 g (q + ol) xs (ost + 1) h3 hO (by omega) (by omega) hql (by omega) hnd3
            rw [show ((ost + 1 : Nat) : Int) = (ost : Int) + 1 by omega] at this
            exact this
          obtain ⟨b2, p2, cs2, hr2⟩ : ∃ b p1 cs1, D s.data.toList m (.joins (ost + 1)) (q + ol) xs = (b, p1, cs1) := ⟨_, _, _, rfl⟩
          rw [hr2] at HJ2 hgo2 hfew2 hRR
          have hp2 : p2 ≤ s.size := by have := hgo2.le; rw [HSZ.out] at this; exact this
          have HRR := Lib.hid hRR; have HGO := Lib.hid hgo2; have HFW := Lib.hid hfew2
          clear hRR hgo2 hfew2 hr2 hnd3
          go_wp2_with fail
          refine HOP.out.mono ?_
          rintro e w2 ⟨X, hX, rfl, hb⟩
          have H2 := HST.out.to_below hb
          have H3 := Lib.hid (H2.alloc (.cells #[.int .i64 oop, .string X, .int .i64 ost] 157))
          have HBX := Lib.hid (heap_alloc_new w2 (.cells #[.int .i64 oop, .string X, .int .i64 ost] 157))
          have hg2 := H2.lt
          clear hb H2
          go_wp2
          generalize hW : w2.alloc (.cells #[.int .i64 oop, .string X, .int .i64 ost] 157) = W at H3 HBX ⊢
          generalize hbo : w2.heap.size = bo at *
          clear hW hbo
          obtain ⟨v, ⟨c0, c1, c2, f1, f2⟩, hbox, hown⟩ := H3.out.at_
          obtain ⟨o0, o1, o2, _, _, _⟩ := three_at HBX.out
          clear hbox hown
          have hqx : (q : Int) + (X.size : Int) = ((q + ol : Nat) : Int) := by rw [hX]; simp
          have HQX := Lib.hid hqx
          have hq6 : IntKind.i64.wrap ((q : Int) + (X.size : Int)) = (q : Int) + (X.size : Int) := IntWalk.i64_in _ (by omega)
          clear hqx
          have HX2 := Lib.hid hX; clear hX
          refine wp_region_tail 8 (by kernel_rfl) (by kernel_rfl) ?_
          simp only [List.take_succ_cons, List.take_zero, List.drop_succ_cons, List.drop_zero]
          repeat still_step
          refine wpStill_nil ?_
          clear hq6
          have HC : Hid (St w0 W g s (q + ol) xs (W.drew.setCell ⟨g, 1, none⟩ (.int .i64 ((q : Int) + (X.size : Int))))) := H3.out.here.drew.setAt _ HQX.out
          have HL2 : Hid (∀ w4, St w0 W g s p2 cs2 w4 → b2 = true → ∀ w5, St w0 wa g s p2 (cs2 ++ [opC oop]) w5 → JL s w0 wa g ost n R m p2 (cs2 ++ [opC oop]) ((ost : Int) == 3) w5) := by
            intro w4 _ hb2 w5 h5
            subst hb2
            have h1 := HRR.out
            rw [if_pos rfl] at h1
            have e3 : (ost == 3) = ((ost : Int) == 3) := by
              by_cases h : ost = 3
              · subst h; rfl
              · rw [beq_eq_false_iff_ne.2 h, beq_eq_false_iff_ne.2 (by omega)]
            rw [← e3]
            have h2 := HFW.out rfl
            have h3 := HGO.out.ge
            simp only at h2 h3
            refine ⟨h1, ?_, by omega, hp2, by simp; omega, h5⟩
            have h4 := HND.out
            simp only [need, HSZ.out] at *; omega
          have HPL : Hid (s.size - p2 < s.size - q) := by
            have h3 := HGO.out.ge
            show _ < _
            simp only at h3; omega
          have hcs2 : b2 = true → cs2.length ≤ 600 := by
            intro hb2; subst hb2
            have h2 := HFW.out rfl
            simp only at h2; omega
          have HCS := Lib.hid hcs2; clear hcs2
          go_wp2_with fail
          refine (HJ2.out _ HC.out.here).mono ?_
          rintro e w4 ⟨rfl, h4⟩
          have H4 := Lib.hid (h4.re HC.out.keep)
          have hbg : bo ≠ g := by omega
          have hbl := lt_of_block HBX.out
          have HBX4 : Hid (w4.heap[bo]? = some (.cells #[.int .i64 oop, .string X, .int .i64 ost] 157 (0, 0))) := by
            have := H4.out.keep.same bo hbl hbg (by
              intro cs fr e
              rw [HBX.out] at e
              have e := Option.some.inj e
              simp at e)
            exact this.trans HBX.out
          clear h4 c0 c1 c2 f1 f2 o0 o1 o2 HC
          have HRRR := HRR
          cases b2
          · have HP : Hid (R = (false, p2, cs2)) := by
              have h1 := HRR.out
              rw [if_neg (by simp)] at h1
              exact h1.symm
            go_wp2
            go_ret
            exact RPost.of HP.out (H4.out.re H3.out.keep)
          · obtain ⟨v4, ⟨c0, c1, c2, f1, f2⟩, hbox4, hown4⟩ := H4.out.at_
            obtain ⟨o0, o1, o2, _, _, _⟩ := three_at HBX4.out
            have HB4 := Lib.hid hbox4; have HOWN := Lib.hid hown4; have HNE := Lib.hid (own_ne hown4 hbox4)
            have hgl := H4.out.lt
            have hWs := H4.out.size
            have hcs2 := HCS.out rfl
            clear hbox4 hown4
            obtain ⟨i0, hi0, hz0, hz1, hz2⟩ := info_parts Tryz.infoCell
            have HI := Lib.hid hi0; have HZ0 := Lib.hid hz0; have HZ1 := Lib.hid hz1; have HZ2 := Lib.hid hz2
            clear hi0 hz0 hz1 hz2
            go_wp2
            go_region_law ((refine step_append_lies _ (by rfl) _ _ _ (by rfl) w0.heap.size 93 i0 _ 3 32 Tryz.underlying57 HI.out HZ0.out HZ1.out HZ2.out rfl (by omega) v4 cs2.length (flat cs2) (by rfl) ((HOWN.out.alloc _).drew) ⟨w4.heap.size, 0, none⟩ 1 1 (cellV (opC oop)) (by rfl) (by rfl) (World.news_of_block (cs := #[.int .i64 oop, .int .i64 0, .string ⟨#[]⟩]) (t := 93) (fr := (0, 0)) (heap_alloc_new w4 _)) (one_vals (opC oop)) (by omega) (by unfold maxLen; omega) (by omega) (by simp; omega) (w4.heap.size + 1) (by simp) ?_
                            intro gg cap w5 hown1 hgrow hat hlt
                            obtain ⟨k2, kf2⟩ := push_far_drew hgrow hgl HNE.out c2 f2))
            all_goals
              have HH : Hid (St w0 W g s p2 (cs2 ++ [opC oop]) (w5.setCell ⟨g, 2, none⟩ (.slice (some ⟨gg, 0, none⟩) (cs2.length + 1) cap))) := by
                refine H4.out.push HB4.out HOWN.out (w1 := (w4.alloc (.cells #[.int .i64 oop, .int .i64 0, .string ⟨#[]⟩] 93)).drew) ((Below.refl _ _).alloc (Nat.le_refl _) _).drew ?_ hgrow
                rw [flat_append, flat_one, List.length_append]
                exact hown1
              have HJL := Lib.hid (HL2.out _ H4.out (by simp) _ (HH.out.re H3.out.keep))
              have HPL2 := Lib.hid HH.out.place
              clear hown1 hgrow hat hlt k2 kf2 HH
              go_wp2
              go_step3
              refine ⟨⟨rfl, m, p2, _, _, HJL.out, _, _, _, _, _, _, _, _, _, _, _, _, _, _, _, _, _, _, _, _, _, _, _, _, _, _, _, _, _, _, _, _, _, _, _, _, _, _, _, _, _, _, _, _, _, _, _, _, rfl⟩, ?_⟩
              rw [HPL2.out, HPO.out]
              exact HPL.out
        · have HP : Hid (R = (false, q, xs)) := by
            have := HRES.out
            rw [if_neg (by simp), if_pos rfl] at this
            exact this.symm
          go_wp2_with fail
          refine HOP.out.mono ?_
          rintro e w2 ⟨X, hX, rfl, hb⟩
          have H2 := Lib.hid (HST.out.to_below hb); clear hb
          go_wp2
          go_ret
          exact RPost.of HP.out (H2.out.alloc _)
      · have tk : ((ost : Int) != (k : Int)) = true := bne_iff_ne.2 (by omega)
        have HP : Hid (R = (true, q, xs)) := by
          have := HRES.out
          rw [if_pos hsk] at this
          exact this.symm
        clear hsk
        go_wp2_with fail
        refine HOP.out.mono ?_
        rintro e w2 ⟨X, hX, rfl, hb⟩
        have H2 := Lib.hid (HST.out.to_below hb); clear hb
        go_wp2
        go_ret
        exact RPost.of HP.out (H2.out.alloc _)
    · intro H
      have HH := Lib.hid H; clear H
      go_wp2_with fail
      refine HJ.out.mono ?_
      rintro e w1 ⟨rfl, h1⟩
      have H1 := Lib.hid h1; clear h1
      go_wp2
      go_step3
      exact walk_on (by assumption) (HH.out 0 _ _ _ rfl ⟨rfl, n, p1, cs1, false, HL.out _ H1.out, _, _, _, _, _, _, _, _, _, _, _, _, _, _, _, _, _, _, _, _, _, _, _, _, _, _, _, _, _, _, _, _, _, _, _, _, _, _, _, _, _, _, _, _, _, _, _, _, rfl⟩)

theorem reads (s : ByteArray) (hs : s.size ≤ 600) : ∀ n, JH s n ∧ AH s n := by
  intro n
  induction n using Nat.strongRecOn with
  | _ n ih =>
    cases n with
    | zero =>
      refine ⟨?_, ?_⟩
      · intro w0 wa w g p cs k _ _ h1 h6 _ _ hn
        simp only [need] at hn; omega
      · intro w0 wa w g p cs _ _ _ _ hn
        simp only [need] at hn; omega
    | succ n =>
      have hA := ahead_any hs (ih n (by omega)).1 (ih n (by omega)).2
      refine ⟨?_, hA⟩
      intro w0 wa w g p cs k h hO h1 h6 hp hc hn
      by_cases hk : k = 6
      · subst hk; exact joins_six (ih n (by omega)).2 h hO hp hc hn
      · exact joins_low hs (fun m hm => (ih m (by omega)).1) h hO h1 (by omega) hp hc hn
end Go.Proofs.YtjgfkmakfdepcaaGreatDoor
namespace Go.Proofs.YtjgfkmakfdepcaaGreatDoor
open Go.RowKit

/-- a slice value that the call owns, a list of cells -/
structure Own (w : World) (cs : List CM) (v : Value) (w' : World) : Prop where
  own : w'.ownsRow w.heap.size 93 3 v cs.length (flat cs)
  below : Below w.heap.size w w'

/-- what Parse comes to -/
def ParsePost (l : List UInt8) (w : World) (e : Ending) (w' : World) : Prop :=
  ∃ v, e = .returned (.tuple #[v, .int .i64 (parseP l).2.1, .int .i64 (parseP l).2.2]) ∧ Own w (parseP l).1 v w'
theorem ParsePost.of {l : List UInt8} {w w' : World} {cs : List CM} {p : Nat} {e : Int} {v : Value} (h : parseP l = (cs, p, e)) (ho : Own w cs v w') : ParsePost l w (.returned (.tuple #[v, .int .i64 p, .int .i64 e])) w' := by
  unfold ParsePost; rw [h]; exact ⟨v, rfl, ho⟩

theorem St.begin (w : World) (s : ByteArray) : St w (w.alloc (.cells #[.string s, .int .i64 0, .slice none 0 0] 128)) w.heap.size s 0 [] (w.alloc (.cells #[.string s, .int .i64 0, .slice none 0 0] 128)) :=
  ⟨⟨_, heap_alloc_new w _, World.ownsRow_nil _ _ _ _⟩, Nat.le_refl _, (Below.refl _ _).alloc (Nat.le_refl _) _, Keeps.refl _ _⟩

theorem parse_any (s : ByteArray) (w : World) (hO : Ops w) (hs : s.size ≤ 9223372036854775807) :
    Calls Tryz.prog 61 #[.string s] w (ParsePost s.data.toList w) := by
  by_cases h6 : 600 < s.size
  · have hP : parseP s.data.toList = ([], 0, 4) := by unfold parseP; rw [if_pos (by rw [sz]; exact h6)]
    have h6' : (600 : Int) < s.size := by omega
    have HP := Lib.hid (ParsePost.of (w := w) (w' := w) (v := .slice none 0 0) hP ⟨World.ownsRow_nil _ _ _ _, Below.refl _ _⟩)
    clear hP
    go_enter Tryz.func61, Tryz.ntmps61
    go_wp2
    go_ret3
    exact HP.out
  · have h6' : decide ((600 : Int) < s.size) = false := decide_eq_false (by omega)
    have HB := Lib.hid (St.begin w s)
    have HJ := Lib.hid ((reads s (by omega) (s.data.toList.length * 10 + 8)).1 w _ _ w.heap.size 0 [] 1 HB.out hO (by omega) (by omega) (by omega) (by simp) (by simp only [need]; omega))
    have hgo := goes s.data.toList (s.data.toList.length * 10 + 8) (.joins 1) 0 [] (by omega)
    have hP : parseP s.data.toList = if (D s.data.toList (s.data.toList.length * 10 + 8) (.joins 1) 0 []).1 = false ∨ (D s.data.toList (s.data.toList.length * 10 + 8) (.joins 1) 0 []).2.1 < s.data.toList.length then ([], (D s.data.toList (s.data.toList.length * 10 + 8) (.joins 1) 0 []).2.1, 1)
        else if 32 < (D s.data.toList (s.data.toList.length * 10 + 8) (.joins 1) 0 []).2.2.length then ([], 0, 4) else ((D s.data.toList (s.data.toList.length * 10 + 8) (.joins 1) 0 []).2.2, 0, 0) := by
      conv => lhs; unfold parseP
      rw [if_neg (by rw [sz]; exact h6)]
    obtain ⟨b, p, cs, hr⟩ : ∃ b p cs, D s.data.toList (s.data.toList.length * 10 + 8) (.joins 1) 0 [] = (b, p, cs) := ⟨_, _, _, rfl⟩
    rw [hr] at HJ hgo hP
    have hp : p ≤ s.size := by have := hgo.le; rw [sz] at this; exact this
    rw [sz] at hP
    have HP := Lib.hid hP
    clear hP hr hgo HB
    unfold rp at *
    have fin : ∀ {w' : World} {wa g}, St w wa g s p cs w' → Below w.heap.size w w' := fun h => h.below
    cases b
    · have HPP : Hid (parseP s.data.toList = ([], p, 1)) := by
        have := HP.out
        rw [if_pos (Or.inl rfl)] at this
        exact this
      go_enter Tryz.func61, Tryz.ntmps61
      go_wp2_with fail
      refine HJ.out.mono ?_
      rintro e w1 ⟨rfl, h1⟩
      obtain ⟨v, ⟨c0, c1, c2, _, _⟩, _, _⟩ := h1.at_
      have HB1 := Lib.hid h1.below
      clear h1
      go_wp2
      go_quiet (fail)
      go_wp2
      go_ret3
      exact ParsePost.of HPP.out ⟨World.ownsRow_nil _ _ _ _, ⟨HB1.out.os, HB1.out.tape, HB1.out.output, HB1.out.size, HB1.out.block⟩⟩
    · by_cases hps : p < s.size
      · have HPP : Hid (parseP s.data.toList = ([], p, 1)) := by
          have := HP.out
          rw [if_pos (Or.inr hps)] at this
          exact this
        have hps' : (p : Int) < s.size := by omega
        go_enter Tryz.func61, Tryz.ntmps61
        go_wp2_with fail
        refine HJ.out.mono ?_
        rintro e w1 ⟨rfl, h1⟩
        obtain ⟨v, ⟨c0, c1, c2, _, _⟩, _, _⟩ := h1.at_
        have HB1 := Lib.hid h1.below
        clear h1
        go_wp2
        go_quiet (fail)
        go_wp2
        go_ret3
        exact ParsePost.of HPP.out ⟨World.ownsRow_nil _ _ _ _, ⟨HB1.out.os, HB1.out.tape, HB1.out.output, HB1.out.size, HB1.out.block⟩⟩
      · have hps' : decide ((p : Int) < s.size) = false := decide_eq_false (by omega)
        by_cases h32 : 32 < cs.length
        · have HPP : Hid (parseP s.data.toList = ([], 0, 4)) := by
            have := HP.out
            rw [if_neg (by simp; omega), if_pos h32] at this
            exact this
          have h32' : (32 : Int) < cs.length := by omega
          go_enter Tryz.func61, Tryz.ntmps61
          go_wp2_with fail
          refine HJ.out.mono ?_
          rintro e w1 ⟨rfl, h1⟩
          obtain ⟨v, ⟨c0, c1, c2, _, _⟩, _, hown⟩ := h1.at_
          obtain ⟨g1, cap, rfl, _, _⟩ := hown.form (show 0 < cs.length by omega)
          have HB1 := Lib.hid h1.below
          clear h1 hown
          go_wp2
          go_ret3
          exact ParsePost.of HPP.out ⟨World.ownsRow_nil _ _ _ _, HB1.out⟩
        · have HPP : Hid (parseP s.data.toList = (cs, 0, 0)) := by
            have := HP.out
            rw [if_neg (by simp; omega), if_neg h32] at this
            exact this
          have h32' : decide ((32 : Int) < cs.length) = false := decide_eq_false (by omega)
          go_enter Tryz.func61, Tryz.ntmps61
          go_wp2_with fail
          refine HJ.out.mono ?_
          rintro e w1 ⟨rfl, h1⟩
          obtain ⟨v, ⟨c0, c1, c2, _, _⟩, _, hown⟩ := h1.at_
          have hform : ∃ A c, v = .slice A cs.length c := by
            rcases hown.2 with ⟨rfl, h0⟩ | ⟨g, cap, cur, rfl, _⟩
            · have : cs = [] := by
                cases cs with
                | nil => rfl
                | cons c r => simp at h0
              subst this; exact ⟨_, _, rfl⟩
            · exact ⟨_, _, rfl⟩
          obtain ⟨A, c, rfl⟩ := hform
          have HB1 := Lib.hid h1.below; have HOWN := Lib.hid hown
          clear h1 hown
          go_wp2
          go_ret3
          exact ParsePost.of HPP.out ⟨HOWN.out, HB1.out⟩
end Go.Proofs.YtjgfkmakfdepcaaGreatDoor
namespace Go.Proofs.YtjgfkmakfdepcaaGreatDoor
open Go.RowKit

/-- a slice value that reads as a list of cells -/
def RdC (w : World) (v : Value) (cs : List CM) : Prop :=
  ∃ (A : Option Addr) (c : Nat), v = .slice A cs.length c ∧ ∀ i (h : i < cs.length), ∃ b o, A = some ⟨b, o, none⟩ ∧
    w.cell? ⟨b, o + i * 3, none⟩ = some (.int .i64 cs[i].op) ∧ w.cell? ⟨b, o + i * 3 + 1, none⟩ = some (.int .i64 cs[i].a) ∧ w.cell? ⟨b, o + i * 3 + 2, none⟩ = some (bstr cs[i].nm)

theorem cell_lt {w : World} {p : Addr} {u : Value} (h : w.cell? p = some u) : p.block < w.heap.size := World.block_lt_of_cell? w p h
theorem RdC.below {w w' : World} {v : Value} {cs : List CM} (h : RdC w v cs) (hb : Below w.heap.size w w') : RdC w' v cs := by
  obtain ⟨A, c, rfl, hr⟩ := h
  refine ⟨A, c, rfl, fun i hi => ?_⟩
  obtain ⟨b, o, rfl, h0, h1, h2⟩ := hr i hi
  exact ⟨b, o, rfl, (hb.cell (cell_lt h0)).trans h0, (hb.cell (cell_lt h1)).trans h1, (hb.cell (cell_lt h2)).trans h2⟩
theorem own_rd {w : World} {B : Nat} {v : Value} {cs : List CM} (h : w.ownsRow B 93 3 v cs.length (flat cs)) : RdC w v cs := by
  by_cases h0 : 0 < cs.length
  · obtain ⟨g, cap, rfl, _, _⟩ := h.form h0
    refine ⟨_, _, rfl, fun i hi => ⟨_, _, rfl, ?_⟩⟩
    obtain ⟨f0, f1, f2⟩ := flat_at hi
    rw [Nat.zero_add, h.cellAt _ (by omega), h.cellAt _ (by omega), h.cellAt _ (by omega)]
    exact ⟨f0, f1, f2⟩
  · have : cs = [] := List.eq_nil_of_length_eq_zero (by omega)
    subst this
    rcases h.2 with ⟨rfl, _⟩ | ⟨g, cap, cur, rfl, _⟩
    · exact ⟨_, _, rfl, fun i hi => absurd hi (by simp)⟩
    · exact ⟨_, _, rfl, fun i hi => absurd hi (by simp)⟩
theorem Own.rd {w w' : World} {cs : List CM} {v : Value} (h : Own w cs v w') : RdC w' v cs := own_rd h.own

/-- how many values are left, from so many on -/
def runB : List CM → Nat → Option Nat
  | [], v => some v
  | c :: r, v => if formedB c = true ∧ operN c.op ≤ v then runB r (v + 1 - operN c.op) else none
def rightB (cs : List CM) : Bool := decide (cs.length ≤ 32) && (runB cs 0 == some 1)

theorem operN_le (op : Int) : operN op ≤ 2 := by unfold operN; split; omega; split <;> omega
theorem run_at {cs : List CM} {k v : Nat} (hk : k < cs.length) : runB (cs.drop k) v = if formedB cs[k] = true ∧ operN cs[k].op ≤ v then runB (cs.drop (k + 1)) (v + 1 - operN cs[k].op) else none := by
  rw [List.drop_eq_getElem_cons hk]; rfl

set_option maxHeartbeats 2000000 in
theorem right_any (v : Value) (cs : List CM) (w : World) (hR : RdC w v cs) (hl : cs.length ≤ 4611686018427387904) :
    Calls Tryz.prog 48 #[v] w fun e w' => e = .returned (.bool (rightB cs)) ∧ Below w.heap.size w w' := by
  obtain ⟨A, c, rfl, hr⟩ := hR
  by_cases h32 : 32 < cs.length
  · have hB : rightB cs = false := by unfold rightB; rw [decide_eq_false (by omega)]; rfl
    rw [hB]; clear hB hr
    have h32' : (32 : Int) < cs.length := by omega
    go_enter Tryz.func48, Tryz.ntmps48
    go_wp2
    go_ret
    exact ⟨rfl, Below.refl _ _⟩
  · have hB : rightB cs = (runB cs 0 == some 1) := by unfold rightB; rw [decide_eq_true (by omega)]; rfl
    rw [hB]; clear hB
    have h32' : decide ((32 : Int) < cs.length) = false := decide_eq_false (by omega)
    have HR := Lib.hid hr; clear hr
    obtain ⟨n, hn⟩ : ∃ n, cs.length = n := ⟨_, rfl⟩
    have HN := Lib.hid hn
    rw [hn] at h32' hl h32 ⊢
    clear hn
    go_enter Tryz.func48, Tryz.ntmps48
    go_wp2
    go_loopw [2, 3, 12] (fun x2 vv i wr => x2 = .bool false ∧ ∃ k vs : Nat, k ≤ n ∧ vs ≤ k ∧ i = .int .i64 k ∧ vv = .int .i64 vs ∧ Hid (runB (cs.drop k) vs = runB cs 0) ∧ Below w.heap.size w wr) (fun _ _ i _ => n - (intOf i).toNat)
    case atStart => exact ⟨rfl, 0, 0, by omega, by omega, rfl, rfl, rfl, Below.refl _ _⟩
    case round =>
      obtain ⟨rfl, k, vs, hk, hvs, rfl, rfl, HB, hb⟩ := hrel
      have HBL := Lib.hid hb
      by_cases hkn : k < n
      · obtain ⟨b, o, rfl, d0, d1, d2⟩ := HR.out k (by rw [HN.out]; exact hkn)
        have hrun := run_at (cs := cs) (k := k) (v := vs) (by rw [HN.out]; exact hkn)
        rw [HB.out] at hrun
        obtain ⟨cc, hcc⟩ : ∃ cc, cs[k]'(by rw [HN.out]; exact hkn) = cc := ⟨_, rfl⟩
        rw [hcc] at d0 d1 d2 hrun
        have e0 := (hb.cell (cell_lt d0)).trans d0
        have e1 := (hb.cell (cell_lt d1)).trans d1
        have e2 := (hb.cell (cell_lt d2)).trans d2
        have hon := operN_le cc.op
        obtain ⟨X, hX⟩ : ∃ X : ByteArray, bstr cc.nm = .string X := ⟨_, rfl⟩
        have hfm := formed_any cc
        rw [hX] at e2 hfm
        have HFM := Lib.hid hfm
        have HRUN := Lib.hid hrun
        clear d0 d1 d2 hcc hrun hb hX hfm
        cases hf : formedB cc
        · have HFF := Lib.hid hf
          have hE : runB cs 0 = none := by rw [HRUN.out, hf, if_neg (by simp)]
          have HE := Lib.hid hE
          clear hE hf
          go_wp2_with fail
          refine (operands_any _ _).mono ?_
          rintro e w1 ⟨rfl, rfl⟩
          go_wp2_with fail
          refine (HFM.out _).mono ?_
          rintro e w2 ⟨rfl, hb2⟩
          have HB2 := Lib.hid hb2; clear hb2
          rw [HFF.out]
          go_wp2
          go_ret
          exact ⟨by rw [HE.out]; rfl, (HBL.out.alloc HBL.out.size _).trans (HB2.out.mono (by have := HBL.out.size; simp; omega))⟩
        · have HFF := Lib.hid hf
          by_cases hov : operN cc.op ≤ vs
          · have hE : runB (cs.drop (k + 1)) (vs + 1 - operN cc.op) = runB cs 0 := by rw [HRUN.out, hf, if_pos ⟨rfl, hov⟩]
            have HE := Lib.hid hE
            clear hE hf
            have hov' : decide ((vs : Int) < (operN cc.op : Int)) = false := decide_eq_false (by omega)
            go_wp2_with fail
            refine (operands_any _ _).mono ?_
            rintro e w1 ⟨rfl, rfl⟩
            go_wp2_with fail
            refine (HFM.out _).mono ?_
            rintro e w2 ⟨rfl, hb2⟩
            have HB2 := Lib.hid hb2; clear hb2
            rw [HFF.out]
            go_wp2
            go_roundw
            case rel => exact ⟨rfl, k + 1, vs + 1 - operN cc.op, by omega, by omega, by go_num, by congr 1; omega, HE, (HBL.out.alloc HBL.out.size _).trans (HB2.out.mono (by have := HBL.out.size; simp; omega))⟩
            case measure => simp [intOf]; omega
          · have hE : runB cs 0 = none := by rw [HRUN.out, hf, if_neg (by simp; omega)]
            have HE := Lib.hid hE
            clear hE hf
            have hov' : (vs : Int) < (operN cc.op : Int) := by omega
            go_wp2_with fail
            refine (operands_any _ _).mono ?_
            rintro e w1 ⟨rfl, rfl⟩
            go_wp2_with fail
            refine (HFM.out _).mono ?_
            rintro e w2 ⟨rfl, hb2⟩
            have HB2 := Lib.hid hb2; clear hb2
            rw [HFF.out]
            go_wp2
            go_ret
            exact ⟨by rw [HE.out]; rfl, (HBL.out.alloc HBL.out.size _).trans (HB2.out.mono (by have := HBL.out.size; simp; omega))⟩
      · have hE : runB cs 0 = some vs := by
          rw [← HB.out, List.drop_of_length_le (by rw [HN.out]; omega)]; rfl
        have hE2 : (runB cs 0 == some 1) = ((vs : Int) == 1) := by
          rw [hE]
          by_cases h : vs = 1
          · subst h; rfl
          · rw [int_ne (show (vs : Int) ≠ 1 by omega)]; simp [h]
        have HE := Lib.hid hE2
        clear hE hE2
        go_wp2
        go_ret
        exact ⟨by rw [HE.out]; rfl, HBL.out⟩
end Go.Proofs.YtjgfkmakfdepcaaGreatDoor
namespace Go.Proofs.YtjgfkmakfdepcaaGreatDoor
open Go.RowKit

abbrev Pc := List UInt8 × Int
def joinP (c : CM) (u0 u1 : Pc) : Pc :=
  if c.op = 1 then (Lib.itoa c.a, 7) else if c.op = 2 then (Lib.itoa c.a ++ [105], 7) else if c.op = 3 then (wTrue, 7) else if c.op = 4 then (wFalse, 7)
  else if c.op = 5 then (c.nm, 7) else if c.op = 6 then ([105, 110, 40] ++ c.nm ++ [41], 7)
  else if c.op = 7 then ([45] ++ inP u0.1 u0.2 6, 6) else if c.op = 8 then ([33] ++ inP u0.1 u0.2 6, 6)
  else if c.op = 9 then ([114, 101, 40] ++ u0.1 ++ [41], 7) else if c.op = 10 then ([105, 109, 40] ++ u0.1 ++ [41], 7)
  else betP (tabAt (c.op - 11).toNat).2.1 (tabAt (c.op - 11).toNat).2.2 u0 u1

def JoinPost (p : Pc) (w : World) (e : Ending) (w' : World) : Prop := e = .returned (.agg #[.string ⟨p.1.toArray⟩, .int .i64 p.2]) ∧ Below w.heap.size w w'
theorem JoinPost.of {p : Pc} {w w' : World} {X : ByteArray} {n : Int} (hX : X = ⟨p.1.toArray⟩) (hn : n = p.2) (hb : Below w.heap.size w w') : JoinPost p w (.returned (.agg #[.string X, .int .i64 n])) w' := by
  subst hX; subst hn; exact ⟨rfl, hb⟩

theorem itoa_short {a : Int} (ha0 : 0 ≤ a) (ha1 : a ≤ 1099511627776) : (Lib.itoa a).length ≤ 100 := by
  obtain ⟨m, rfl⟩ : ∃ m : Nat, a = (m : Int) := ⟨a.toNat, by omega⟩
  have hi : Lib.itoa (m : Int) = Lib.decDigits m := by
    unfold Lib.itoa
    rw [if_neg (by omega)]; rfl
  rw [hi]
  have : ∀ (k u : Nat), u < 10 ^ (k + 1) → (Lib.decDigits u).length ≤ k + 1 := by
    intro k
    induction k with
    | zero => intro u hu; rw [dec_small (by omega)]; simp
    | succ k ih =>
      intro u hu
      by_cases h : u < 10
      · rw [dec_small h]; simp
      · rw [dec_big h]
        have := ih (u / 10) (by rw [Nat.pow_succ] at hu; omega)
        simp; omega
  exact Nat.le_trans (this 12 m (by omega)) (by omega)

theorem tab_cells (k : Nat) (hk : k < 13) : opsCells[k * 3]? = some (.int .i64 (tabAt k).1) ∧ opsCells[k * 3 + 1]? = some (.string ⟨(tabAt k).2.1.toArray⟩) ∧ opsCells[k * 3 + 2]? = some (.int .i64 (tabAt k).2.2) := by
  have h : k = 0 ∨ k = 1 ∨ k = 2 ∨ k = 3 ∨ k = 4 ∨ k = 5 ∨ k = 6 ∨ k = 7 ∨ k = 8 ∨ k = 9 ∨ k = 10 ∨ k = 11 ∨ k = 12 := by omega
  rcases h with rfl | rfl | rfl | rfl | rfl | rfl | rfl | rfl | rfl | rfl | rfl | rfl | rfl <;> exact ⟨rfl, rfl, rfl⟩
end Go.Proofs.YtjgfkmakfdepcaaGreatDoor
