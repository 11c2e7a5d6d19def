/- Own texts, joined: Ej, Ek, El. -/
import Derived.Test.YtjjoffadieoaaaaGreatDoorZ6
namespace Go.Proofs.YtjjoffadieoaaaaGreatDoor
open Go.RowKit

/-- what joins does, with n rounds at hand -/
def JH (s : ByteArray) (n : Nat) : Prop := ∀ (w0 wa w : World) (g p : Nat) (cs : List CM) (k : Nat), St w0 wa g s p cs w → Ops w0 → 1 ≤ k → k ≤ 6 → p ≤ s.size → cs.length ≤ p → need s.data.toList (.joins k) p ≤ n →
  Calls Tryz.prog 89 #[rp g, .int .i64 k] w (RPost w0 wa g s (D s.data.toList n (.joins k) p cs))
def AH (s : ByteArray) (n : Nat) : Prop := ∀ (w0 wa w : World) (g p : Nat) (cs : List CM), St w0 wa g s p cs w → Ops w0 → p ≤ s.size → cs.length ≤ p → need s.data.toList .ahead p ≤ n →
  Calls Tryz.prog 116 #[rp g] w (RPost w0 wa g s (D s.data.toList n .ahead p cs))

theorem sz (s : ByteArray) : s.data.toList.length = s.size := (Lib.size_eq s).symm

theorem inside_any {s : ByteArray} {n : Nat} (hJ : JH s n) {w0 wa w : World} {g p : Nat} {cs : List CM} (h : St w0 wa g s p cs w) (hO : Ops w0) (hp : p + 1 ≤ s.size) (hs : s.size ≤ 600) (hc : cs.length ≤ p) (hn : need s.data.toList (.joins 1) (p + 1) ≤ n) :
    Calls Tryz.prog 157 #[rp g] w (RPost w0 wa g s (closeD s.data.toList (D s.data.toList n (.joins 1) (p + 1) cs))) := by
  have HS := Lib.hid (h.setAt ((p : Int) + 1) (p' := p + 1) (by omega))
  have HJ := Lib.hid (hJ w0 wa _ g (p + 1) cs 1 HS.out hO (by omega) (by omega) hp (by omega) hn)
  have hgo := goes s.data.toList n (.joins 1) (p + 1) cs (by rw [sz]; exact hp)
  obtain ⟨b, p1, cs1, hr⟩ : ∃ b p1 cs1, D s.data.toList n (.joins 1) (p + 1) cs = (b, p1, cs1) := ⟨_, _, _, rfl⟩
  rw [hr] at HJ hgo ⊢
  have hp1 : p1 ≤ s.size := by have := hgo.le; rw [sz] at this; exact this
  obtain ⟨v, ⟨c0, c1, c2, f1, f2⟩, hbox, hown⟩ := h.at_
  clear hbox hown h hr hgo hJ
  unfold rp at *
  cases b
  · go_enter Tryz.func157, Tryz.ntmps157
    go_wp2_with fail
    refine HJ.out.mono ?_
    rintro e w1 ⟨rfl, h1⟩
    have H1 := Lib.hid h1; clear h1
    go_wp2
    go_ret
    exact ⟨rfl, H1.out⟩
  · go_enter Tryz.func157, Tryz.ntmps157
    go_wp2_with fail
    refine HJ.out.mono ?_
    rintro e w1 ⟨rfl, h1⟩
    have H1 := Lib.hid h1; clear h1
    go_wp2_with fail
    refine (closed_any H1.out hp1 hs).mono ?_
    rintro e w2 ⟨rfl, h2⟩
    have H2 := Lib.hid h2; clear h2
    go_wp2
    go_ret
    exact ⟨rfl, H2.out⟩

/-- behind an append of one cell, the world's cell of the reader's list -/
theorem push_far {w w1 : World} {g b : Nat} {x v : Value} {o : Array Value} (hgrow : (w.alloc (.cells o b)).grownBy w1 v.ownBlock) (hg : g < w.heap.size) (hne : v.ownBlock ≠ some g) (hc : w.cell? ⟨g, 2, none⟩ = some x) (hf : w.frozen? ⟨g, 2, none⟩ = false) :
    w1.cell? ⟨g, 2, none⟩ = some x ∧ w1.frozen? ⟨g, 2, none⟩ = false :=
  ⟨(hgrow.cell_far ⟨g, 2, none⟩ (by simp; omega) (Ne.symm hne)).trans ((World.cell?_alloc_lt w _ _ hg).trans hc), (hgrow.frozen_far ⟨g, 2, none⟩ (by simp; omega) (Ne.symm hne)).trans ((World.frozen?_alloc_past _ g 2 hg).trans hf)⟩

set_option maxHeartbeats 1000000 in
set_option maxRecDepth 100000 in
theorem part_any {s : ByteArray} {n : Nat} (hJ : JH s n) {w0 wa w : World} {g p : Nat} {cs : List CM} (h : St w0 wa g s p cs w) (hO : Ops w0) (wd : ByteArray) (o : Int) (hwd : wd.size = 2) (hp : p + 3 ≤ s.size) (hs : s.size ≤ 600) (hc : cs.length ≤ p) (hn : need s.data.toList (.joins 1) (p + 3) ≤ n) :
    Calls Tryz.prog 163 #[rp g, .string wd, .int .i64 o] w (RPost w0 wa g s (addD o (closeD s.data.toList (D s.data.toList n (.joins 1) (p + 3) cs)))) := by
  have HS := Lib.hid (h.setAt ((p : Int) + 2) (p' := p + 2) (by omega))
  have HJ := Lib.hid (inside_any hJ HS.out hO (p := p + 2) hp hs (by omega) hn)
  have hgo := goes s.data.toList n (.joins 1) (p + 3) cs (by rw [sz]; exact hp)
  have hfew := few s.data.toList n (.joins 1) (p + 3) cs (by rw [sz]; exact hp) (by simp)
  have hgc := goes_close (s := s.data.toList) (p := p) (r := D s.data.toList n (.joins 1) (p + 3) cs) (by have := hgo.ge; omega) hgo.le
  have hfc := few_close (s := s.data.toList) hfew
  obtain ⟨b, p1, cs1, hr⟩ : ∃ b p1 cs1, closeD s.data.toList (D s.data.toList n (.joins 1) (p + 3) cs) = (b, p1, cs1) := ⟨_, _, _, rfl⟩
  rw [hr] at HJ hgc hfc ⊢
  have hp1 : p1 ≤ s.size := by have := hgc.le; rw [sz] at this; exact this
  obtain ⟨v, ⟨c0, c1, c2, f1, f2⟩, hbox, hown⟩ := h.at_
  obtain ⟨i0, hi0, hz0, hz1, hz2⟩ := info_parts Tryz.infoCell
  have HI := Lib.hid hi0; have HZ0 := Lib.hid hz0; have HZ1 := Lib.hid hz1; have HZ2 := Lib.hid hz2
  clear hi0 hz0 hz1 hz2 hbox hown h hr hgo hJ hfew hgc
  unfold rp at *
  cases b
  · clear hfc
    go_enter Tryz.func163, Tryz.ntmps163
    go_wp2_with fail
    refine HJ.out.mono ?_
    rintro e w1 ⟨rfl, h1⟩
    have H1 := Lib.hid h1; clear h1
    go_wp2
    go_ret
    exact ⟨rfl, H1.out⟩
  · have hfc : cs1.length ≤ 600 := by have := hfc rfl; simp only at this; omega
    go_enter Tryz.func163, Tryz.ntmps163
    go_wp2_with fail
    refine HJ.out.mono ?_
    rintro e w1 ⟨rfl, h1⟩
    clear c0 c1 c2 f1 f2
    obtain ⟨v1, ⟨c0, c1, c2, f1, f2⟩, hbox, hown⟩ := h1.at_
    have H1 := Lib.hid h1; have HBX := Lib.hid hbox; have HOWN := Lib.hid hown; have HNE := Lib.hid (own_ne hown hbox)
    have hgl := h1.lt
    have hWs := h1.size
    clear h1 hbox hown
    go_wp2_with (at_builtin; refine wpList_append_own _ rfl _ _ 57 rfl w0.heap.size 93 i0 _ 3 32 Tryz.underlying57 HI.out HZ0.out HZ1.out HZ2.out rfl (by decide) v1 cs1.length (flat cs1) rfl (HOWN.out.alloc _) ⟨w1.heap.size, 0, none⟩ 1 1 (cellV (opC o)) rfl rfl (one_wide w1 _ _ _ _) (one_vals (opC o)) (by unfold maxLen; omega) (by omega) (by simp; omega) ?_)
    intro v' w2 hown' hgrow _
    obtain ⟨gg, cap, rfl, _, _⟩ := hown'.form (by omega)
    obtain ⟨k2, kf2⟩ := push_far hgrow hgl HNE.out c2 f2
    have HH : Hid (St w0 wa g s p1 (cs1 ++ [opC o]) (w2.setCell ⟨g, 2, none⟩ (.slice (some ⟨gg, 0, none⟩) (cs1.length + 1) cap))) := by
      refine H1.out.push HBX.out HOWN.out (w1 := w1.alloc (.cells #[.int .i64 (opC o).op, .int .i64 (opC o).a, bstr (opC o).nm] 93)) ((Below.refl _ _).alloc (Nat.le_refl _) _) ?_ hgrow
      rw [flat_append, flat_one, List.length_append]
      exact hown'
    clear hown' hgrow
    go_wp2
    go_ret
    exact ⟨rfl, HH.out⟩
end Go.Proofs.YtjjoffadieoaaaaGreatDoor
namespace Go.Proofs.YtjjoffadieoaaaaGreatDoor
open Go.RowKit

def operandD (s : List UInt8) (n p : Nat) (cs : List CM) : Rs :=
  if nx s p = 40 then closeD s (D s n (.joins 1) (p + 1) cs) else if isD (nx s p) = true then numD s p cs else wordD s p cs (wordP s p) (D s n (.joins 1) (p + 3) cs)

theorem operand_paren {s : ByteArray} {n : Nat} (hJ : JH s n) {w0 wa w : World} {g p : Nat} {cs : List CM} (h : St w0 wa g s p cs w) (hO : Ops w0) (h40 : nx s.data.toList p = 40) (hs : s.size ≤ 600) (hc : cs.length ≤ p) (hn : need s.data.toList .ahead p ≤ n + 1) :
    Calls Tryz.prog 135 #[rp g] w (RPost w0 wa g s (closeD s.data.toList (D s.data.toList n (.joins 1) (p + 1) cs))) := by
  have hlt := nx_lt (s := s.data.toList) (p := p) (by rw [h40]; decide)
  have hnd : need s.data.toList (.joins 1) (p + 1) ≤ n := by simp only [need] at *; omega
  rw [sz] at hlt
  have HX := Lib.hid (next_any h (by omega))
  have HI : Hid (∀ m, Calls Tryz.prog 157 #[rp g] (w.drewN m) (RPost w0 wa g s (closeD s.data.toList (D s.data.toList n (.joins 1) (p + 1) cs)))) := fun m => inside_any hJ (h.drewN m) hO hlt hs hc hnd
  have t40 : ((nx s.data.toList p).toNat : Int) = 40 := by rw [h40]; rfl
  have HT := Lib.hid t40
  clear h t40 h40 hJ
  unfold rp at *
  go_enter Tryz.func135, Tryz.ntmps135
  go_wp2_with fail
  refine HX.out.mono ?_
  rintro e w1 ⟨rfl, m, rfl⟩
  rw [HT.out]
  go_wp2_with fail
  refine (HI.out m).mono ?_
  rintro e w2 ⟨rfl, h2⟩
  have H2 := Lib.hid h2; clear h2
  go_wp2
  go_ret
  exact ⟨rfl, H2.out⟩

theorem operand_num {s : ByteArray} {w0 wa w : World} {g p : Nat} {cs : List CM} (h : St w0 wa g s p cs w) (hd : isD (nx s.data.toList p) = true) (hs : s.size ≤ 600) (hc : cs.length ≤ p) :
    Calls Tryz.prog 135 #[rp g] w (RPost w0 wa g s (numD s.data.toList p cs)) := by
  have hlt := nx_lt (s := s.data.toList) (p := p) (by intro e; rw [e] at hd; exact absurd hd (by decide))
  rw [sz] at hlt
  have HX := Lib.hid (next_any h (by omega))
  have HI : Hid (∀ m, Calls Tryz.prog 159 #[rp g] (w.drewN m) (RPost w0 wa g s (numD s.data.toList p cs))) := fun m => number_walk (h.drewN m) hlt hd hs (by omega)
  have t40 : (((nx s.data.toList p).toNat : Int) == 40) = false := byte_not (k := 40) (by decide) (fun e => by rw [e] at hd; exact absurd hd (by decide))
  have HD := Lib.hid hd
  clear h hd
  unfold rp at *
  go_enter Tryz.func135, Tryz.ntmps135
  go_wp2_with fail
  refine HX.out.mono ?_
  rintro e w1 ⟨rfl, m, rfl⟩
  go_wp2_with fail
  refine (exDigit_any _ _).mono ?_
  rintro e w1 ⟨rfl, rfl⟩
  rw [HD.out]
  go_wp2_with fail
  refine (HI.out m).mono ?_
  rintro e w2 ⟨rfl, h2⟩
  have H2 := Lib.hid h2; clear h2
  go_wp2
  go_ret
  exact ⟨rfl, H2.out⟩

theorem is_list {X : ByteArray} {l : List UInt8} : (X.toList == l) = decide (X.data.toList = l) := by
  rw [Lib.toList_data]
  by_cases h : X.data.toList = l
  · simp [h]
  · rw [decide_eq_false h]; exact beq_eq_false_iff_ne.2 h

set_option maxRecDepth 100000 in
set_option maxHeartbeats 4000000 in
theorem operand_word {s : ByteArray} {n : Nat} (hJ : JH s n) {w0 wa w : World} {g p : Nat} {cs : List CM} (h : St w0 wa g s p cs w) (hO : Ops w0) (h40 : nx s.data.toList p ≠ 40) (hd : isD (nx s.data.toList p) = false) (hp : p ≤ s.size) (hs : s.size ≤ 600) (hc : cs.length ≤ p) (hn : need s.data.toList .ahead p ≤ n + 1) :
    Calls Tryz.prog 135 #[rp g] w (RPost w0 wa g s (wordD s.data.toList p cs (wordP s.data.toList p) (D s.data.toList n (.joins 1) (p + 3) cs))) := by
  have HX := Lib.hid (next_any h hp)
  have HWD : Hid (∀ m, Calls Tryz.prog 160 #[rp g] (w.drewN m) fun e w' => e = .returned (bstr (wordP s.data.toList p)) ∧ ∃ n, w' = (w.drewN m).drewN n) := fun m => word_any (h.drewN m) hp hs
  have hwl := word_len s p hp
  obtain ⟨X, hX⟩ : ∃ X : ByteArray, X = ⟨(wordP s.data.toList p).toArray⟩ := ⟨_, rfl⟩
  have hXl : X.data.toList = wordP s.data.toList p := by rw [hX]
  have hXz : (wordP s.data.toList p).length = X.size := by rw [← sz X, hXl]
  have hXs : p + X.size ≤ s.size := by rw [← hXz]; exact hwl
  have HXV : Hid (bstr (wordP s.data.toList p) = .string X) := by rw [hX]; rfl
  obtain ⟨R, hR⟩ : ∃ R, wordD s.data.toList p cs (wordP s.data.toList p) (D s.data.toList n (.joins 1) (p + 3) cs) = R := ⟨_, rfl⟩
  have hRX : R = if X.data.toList = [116, 114, 117, 101] then (true, p + 4, cs ++ [opC 3]) else if X.data.toList = [102, 97, 108, 115, 101] then (true, p + 5, cs ++ [opC 4])
      else if nameB X.data.toList = true then (true, p + X.size, cs ++ [⟨5, 0, X.data.toList⟩]) else if nx s.data.toList (p + X.size) ≠ 40 then (false, p, cs)
      else if X.data.toList = [105, 110] then stateD s.data.toList p cs else if X.data.toList = [114, 101] then addD 9 (closeD s.data.toList (D s.data.toList n (.joins 1) (p + 3) cs))
      else if X.data.toList = [105, 109] then addD 10 (closeD s.data.toList (D s.data.toList n (.joins 1) (p + 3) cs)) else (false, p, cs) := by
    rw [← hR, hXl, ← hXz]; rfl
  rw [hR]
  have HRX := Lib.hid hRX
  have HST := Lib.hid h
  have t40 : (((nx s.data.toList p).toNat : Int) == 40) = false := byte_not (k := 40) (by decide) h40
  have HD := Lib.hid hd
  have HJ := Lib.hid hJ
  have hgl := h.lt
  obtain ⟨v, ⟨c0, c1, c2, f1, f2⟩, hbox, hown⟩ := h.at_
  have hq0 : (0 : Int) ≤ (p : Int) + (X.size : Int) := by omega
  have hq1 : (p : Int) + (X.size : Int) ≤ s.size := by omega
  have hq6 : IntKind.i64.wrap ((p : Int) + (X.size : Int)) = (p : Int) + (X.size : Int) := IntWalk.i64_in _ (by omega)
  have hq7 : ((p : Int) + (X.size : Int)).toNat = p + X.size := by omega
  have HQ := Lib.hid (And.intro hq0 (And.intro hq1 (And.intro hq6 hq7)))
  clear hbox hown hX hXl hXz hwl h h40 hd hJ hR hRX hq0 hq1 hq6 hq7
  have hl : ∀ l : List UInt8, (X.toList == l) = decide (X.data.toList = l) := fun l => is_list
  cases b1 : X.toList == [116, 114, 117, 101]
  · cases b2 : X.toList == [102, 97, 108, 115, 101]
    · cases hnm : nameB X.data.toList
      · have HNM := Lib.hid hnm
        by_cases h4 : nx s.data.toList (p + X.size) = 40
        · have hp3 := nx_lt (s := s.data.toList) (p := p + X.size) (by rw [h4]; decide)
          rw [sz] at hp3
          have HH4 : Hid ((nx s.data.toList (p + X.size) == 40) = true) := by rw [h4]; rfl
          cases b3 : X.toList == [105, 110]
          · cases b4 : X.toList == [114, 101]
            · cases b5 : X.toList == [105, 109]
              · have HRR : Hid (R = (false, p, cs)) := by
                  have e1 := b1; have e2 := b2; have e3 := b3; have e4 := b4; have e5 := b5
                  rw [hl, decide_eq_false_iff_not] at e1 e2 e3 e4 e5
                  rw [HRX.out, if_neg e1, if_neg e2, hnm, if_neg (by decide), if_neg (by simp [h4]), if_neg e3, if_neg e4, if_neg e5]; exact rfl
                clear HRX hl hnm h4
                unfold rp at *
                go_enter Tryz.func135, Tryz.ntmps135
                go_wp2_with fail
                refine HX.out.mono ?_
                rintro e w1 ⟨rfl, m, rfl⟩
                go_wp2_with fail
                refine (exDigit_any _ _).mono ?_
                rintro e w1 ⟨rfl, rfl⟩
                rw [HD.out]
                go_wp2_with fail
                refine (HWD.out m).mono ?_
                rintro e w1 ⟨rfl, m2, rfl⟩
                rw [HXV.out]
                go_wp2_with fail
                refine (name_any X _).mono ?_
                rintro e w1 ⟨rfl, rfl⟩
                rw [HNM.out]
                go_wp2_with fail
                obtain ⟨hq0, hq1, hq6, hq7⟩ := HQ.out
                go_quiet ((go_at_call 136; first | exact quiet_at (prefix_at s 40 (p + X.size) (by decide) hXs _) | exact quiet_on (prefix_at s 40 (p + X.size) (by decide) hXs _)))
                clear hq0 hq1 hq6 hq7
                rw [HH4.out]
                go_wp2
                go_ret
                rw [HRR.out]
                exact ⟨rfl, by first | exact HST.out.drewN _ | exact (HST.out.drewN _).drewN _⟩
              · have e5 := b5
                rw [hl, decide_eq_true_iff] at e5
                have hx2 : X.size = 2 := by rw [← sz X, e5]; rfl
                have hnd : need s.data.toList (.joins 1) (p + 3) ≤ n := by simp only [need, sz] at *; omega
                have HRR : Hid (R = addD 10 (closeD s.data.toList (D s.data.toList n (.joins 1) (p + 3) cs))) := by
                  have e1 := b1; have e2 := b2; have e3 := b3; have e4 := b4
                  rw [hl, decide_eq_false_iff_not] at e1 e2 e3 e4
                  rw [HRX.out, if_neg e1, if_neg e2, hnm, if_neg (by decide), if_neg (by simp [h4]), if_neg e3, if_neg e4, if_pos e5]; exact rfl
                have HC : Hid (∀ W, St w0 wa g s p cs W → Calls Tryz.prog 163 #[rp g, .string X, .int .i64 10] W (RPost w0 wa g s R)) := by
                  intro W hW
                  rw [HRR.out]
                  exact part_any HJ.out hW hO X 10 hx2 (by omega) hs hc hnd
                clear HRX hl hnm h4 e5 hx2 hnd HRR HJ
                unfold rp at *
                go_enter Tryz.func135, Tryz.ntmps135
                go_wp2_with fail
                refine HX.out.mono ?_
                rintro e w1 ⟨rfl, m, rfl⟩
                go_wp2_with fail
                refine (exDigit_any _ _).mono ?_
                rintro e w1 ⟨rfl, rfl⟩
                rw [HD.out]
                go_wp2_with fail
                refine (HWD.out m).mono ?_
                rintro e w1 ⟨rfl, m2, rfl⟩
                rw [HXV.out]
                go_wp2_with fail
                refine (name_any X _).mono ?_
                rintro e w1 ⟨rfl, rfl⟩
                rw [HNM.out]
                go_wp2_with fail
                obtain ⟨hq0, hq1, hq6, hq7⟩ := HQ.out
                go_quiet ((go_at_call 136; first | exact quiet_at (prefix_at s 40 (p + X.size) (by decide) hXs _) | exact quiet_on (prefix_at s 40 (p + X.size) (by decide) hXs _)))
                clear hq0 hq1 hq6 hq7
                rw [HH4.out]
                go_wp2_with fail
                refine (HC.out _ (by first | exact HST.out.drewN _ | exact (HST.out.drewN _).drewN _)).mono ?_
                rintro e w2 ⟨rfl, h2⟩
                have H2 := Lib.hid h2; clear h2
                go_wp2
                go_ret
                exact ⟨rfl, H2.out⟩
            · have e4 := b4
              rw [hl, decide_eq_true_iff] at e4
              have hx2 : X.size = 2 := by rw [← sz X, e4]; rfl
              have hnd : need s.data.toList (.joins 1) (p + 3) ≤ n := by simp only [need, sz] at *; omega
              have HRR : Hid (R = addD 9 (closeD s.data.toList (D s.data.toList n (.joins 1) (p + 3) cs))) := by
                have e1 := b1; have e2 := b2; have e3 := b3
                rw [hl, decide_eq_false_iff_not] at e1 e2 e3
                rw [HRX.out, if_neg e1, if_neg e2, hnm, if_neg (by decide), if_neg (by simp [h4]), if_neg e3, if_pos e4]; exact rfl
              have HC : Hid (∀ W, St w0 wa g s p cs W → Calls Tryz.prog 163 #[rp g, .string X, .int .i64 9] W (RPost w0 wa g s R)) := by
                intro W hW
                rw [HRR.out]
                exact part_any HJ.out hW hO X 9 hx2 (by omega) hs hc hnd
              clear HRX hl hnm h4 e4 hx2 hnd HRR HJ
              unfold rp at *
              go_enter Tryz.func135, Tryz.ntmps135
              go_wp2_with fail
              refine HX.out.mono ?_
              rintro e w1 ⟨rfl, m, rfl⟩
              go_wp2_with fail
              refine (exDigit_any _ _).mono ?_
              rintro e w1 ⟨rfl, rfl⟩
              rw [HD.out]
              go_wp2_with fail
              refine (HWD.out m).mono ?_
              rintro e w1 ⟨rfl, m2, rfl⟩
              rw [HXV.out]
              go_wp2_with fail
              refine (name_any X _).mono ?_
              rintro e w1 ⟨rfl, rfl⟩
              rw [HNM.out]
              go_wp2_with fail
              obtain ⟨hq0, hq1, hq6, hq7⟩ := HQ.out
              go_quiet ((go_at_call 136; first | exact quiet_at (prefix_at s 40 (p + X.size) (by decide) hXs _) | exact quiet_on (prefix_at s 40 (p + X.size) (by decide) hXs _)))
              clear hq0 hq1 hq6 hq7
              rw [HH4.out]
              go_wp2_with fail
              refine (HC.out _ (by first | exact HST.out.drewN _ | exact (HST.out.drewN _).drewN _)).mono ?_
              rintro e w2 ⟨rfl, h2⟩
              have H2 := Lib.hid h2; clear h2
              go_wp2
              go_ret
              exact ⟨rfl, H2.out⟩
          · have e3 := b3
            rw [hl, decide_eq_true_iff] at e3
            have hx2 : X.size = 2 := by rw [← sz X, e3]; rfl
            have HRR : Hid (R = stateD s.data.toList p cs) := by
              have e1 := b1; have e2 := b2
              rw [hl, decide_eq_false_iff_not] at e1 e2
              rw [HRX.out, if_neg e1, if_neg e2, hnm, if_neg (by decide), if_neg (by simp [h4]), if_pos e3]; exact rfl
            have HC : Hid (∀ W, St w0 wa g s p cs W → Calls Tryz.prog 162 #[rp g] W (RPost w0 wa g s R)) := by
              intro W hW
              rw [HRR.out]
              exact state_any hW (by omega) hs (by omega)
            clear HRX hl hnm h4 e3 hx2 HRR HJ
            unfold rp at *
            go_enter Tryz.func135, Tryz.ntmps135
            go_wp2_with fail
            refine HX.out.mono ?_
            rintro e w1 ⟨rfl, m, rfl⟩
            go_wp2_with fail
            refine (exDigit_any _ _).mono ?_
            rintro e w1 ⟨rfl, rfl⟩
            rw [HD.out]
            go_wp2_with fail
            refine (HWD.out m).mono ?_
            rintro e w1 ⟨rfl, m2, rfl⟩
            rw [HXV.out]
            go_wp2_with fail
            refine (name_any X _).mono ?_
            rintro e w1 ⟨rfl, rfl⟩
            rw [HNM.out]
            go_wp2_with fail
            obtain ⟨hq0, hq1, hq6, hq7⟩ := HQ.out
            go_quiet ((go_at_call 136; first | exact quiet_at (prefix_at s 40 (p + X.size) (by decide) hXs _) | exact quiet_on (prefix_at s 40 (p + X.size) (by decide) hXs _)))
            clear hq0 hq1 hq6 hq7
            rw [HH4.out]
            go_wp2_with fail
            refine (HC.out _ (by first | exact HST.out.drewN _ | exact (HST.out.drewN _).drewN _)).mono ?_
            rintro e w2 ⟨rfl, h2⟩
            have H2 := Lib.hid h2; clear h2
            go_wp2
            go_ret
            exact ⟨rfl, H2.out⟩
        · have HH4 : Hid ((nx s.data.toList (p + X.size) == 40) = false) := beq_eq_false_iff_ne.2 h4
          have HRR : Hid (R = (false, p, cs)) := by
            have e1 := b1; have e2 := b2
            rw [hl, decide_eq_false_iff_not] at e1 e2
            rw [HRX.out, if_neg e1, if_neg e2, hnm, if_neg (by decide), if_pos h4]; exact rfl
          clear HRX hl hnm h4
          unfold rp at *
          go_enter Tryz.func135, Tryz.ntmps135
          go_wp2_with fail
          refine HX.out.mono ?_
          rintro e w1 ⟨rfl, m, rfl⟩
          go_wp2_with fail
          refine (exDigit_any _ _).mono ?_
          rintro e w1 ⟨rfl, rfl⟩
          rw [HD.out]
          go_wp2_with fail
          refine (HWD.out m).mono ?_
          rintro e w1 ⟨rfl, m2, rfl⟩
          rw [HXV.out]
          go_wp2_with fail
          refine (name_any X _).mono ?_
          rintro e w1 ⟨rfl, rfl⟩
          rw [HNM.out]
          go_wp2_with fail
          obtain ⟨hq0, hq1, hq6, hq7⟩ := HQ.out
          go_quiet ((go_at_call 136; first | exact quiet_at (prefix_at s 40 (p + X.size) (by decide) hXs _) | exact quiet_on (prefix_at s 40 (p + X.size) (by decide) hXs _)))
          clear hq0 hq1 hq6 hq7
          rw [HH4.out]
          go_wp2
          go_ret
          rw [HRR.out]
          exact ⟨rfl, by first | exact HST.out.drewN _ | exact (HST.out.drewN _).drewN _⟩
      · have HNM := Lib.hid hnm
        have HRR : Hid (R = (true, p + X.size, cs ++ [⟨5, 0, X.data.toList⟩])) := by
          have e1 := b1; have e2 := b2
          rw [hl, decide_eq_false_iff_not] at e1 e2
          rw [HRX.out, if_neg e1, if_neg e2, if_pos hnm]; exact rfl
        clear HRX hl hnm
        unfold rp at *
        go_enter Tryz.func135, Tryz.ntmps135
        go_wp2_with fail
        refine HX.out.mono ?_
        rintro e w1 ⟨rfl, m, rfl⟩
        go_wp2_with fail
        refine (exDigit_any _ _).mono ?_
        rintro e w1 ⟨rfl, rfl⟩
        rw [HD.out]
        go_wp2_with fail
        refine (HWD.out m).mono ?_
        rintro e w1 ⟨rfl, m2, rfl⟩
        rw [HXV.out]
        go_wp2_with fail
        refine (name_any X _).mono ?_
        rintro e w1 ⟨rfl, rfl⟩
        rw [HNM.out]
        go_wp2_with fail
        refine (clone_any X _ (by omega)).mono ?_
        rintro e w1 ⟨rfl, hb⟩
        have H1 : Hid (St w0 wa g s p cs w1) := by first | exact (HST.out.drewN _).to_below hb | exact ((HST.out.drewN _).drewN _).to_below hb
        clear hb
        go_wp2_with fail
        refine (take_any H1.out X ⟨5, 0, X.data.toList⟩ hXs hs (by omega)).mono ?_
        rintro e w2 ⟨rfl, h2⟩
        have H2 := Lib.hid h2; clear h2
        go_wp2
        go_ret
        rw [HRR.out]
        exact ⟨rfl, H2.out⟩
    · have e2 := b2
      rw [hl, decide_eq_true_iff] at e2
      have hx5 : X.size = 5 := by rw [← sz X, e2]; rfl
      have HRR : Hid (R = (true, p + X.size, cs ++ [opC 4])) := by
        have e1 := b1
        rw [hl, decide_eq_false_iff_not] at e1
        rw [HRX.out, if_neg e1, if_pos e2, hx5]; exact rfl
      clear HRX hl e2 hx5
      unfold rp at *
      go_enter Tryz.func135, Tryz.ntmps135
      go_wp2_with fail
      refine HX.out.mono ?_
      rintro e w1 ⟨rfl, m, rfl⟩
      go_wp2_with fail
      refine (exDigit_any _ _).mono ?_
      rintro e w1 ⟨rfl, rfl⟩
      rw [HD.out]
      go_wp2_with fail
      refine (HWD.out m).mono ?_
      rintro e w1 ⟨rfl, m2, rfl⟩
      rw [HXV.out]
      go_wp2_with fail
      refine (take_any (by first | exact HST.out.drewN _ | exact (HST.out.drewN _).drewN _) X (opC 4) hXs hs (by omega)).mono ?_
      rintro e w2 ⟨rfl, h2⟩
      have H2 := Lib.hid h2; clear h2
      go_wp2
      go_ret
      rw [HRR.out]
      exact ⟨rfl, H2.out⟩
  · have e1 := b1
    rw [hl, decide_eq_true_iff] at e1
    have hx4 : X.size = 4 := by rw [← sz X, e1]; rfl
    have HRR : Hid (R = (true, p + X.size, cs ++ [opC 3])) := by rw [HRX.out, if_pos e1, hx4]; exact rfl
    clear HRX hl e1 hx4
    unfold rp at *
    go_enter Tryz.func135, Tryz.ntmps135
    go_wp2_with fail
    refine HX.out.mono ?_
    rintro e w1 ⟨rfl, m, rfl⟩
    go_wp2_with fail
    refine (exDigit_any _ _).mono ?_
    rintro e w1 ⟨rfl, rfl⟩
    rw [HD.out]
    go_wp2_with fail
    refine (HWD.out m).mono ?_
    rintro e w1 ⟨rfl, m2, rfl⟩
    rw [HXV.out]
    go_wp2_with fail
    refine (take_any (by first | exact HST.out.drewN _ | exact (HST.out.drewN _).drewN _) X (opC 3) hXs hs (by omega)).mono ?_
    rintro e w2 ⟨rfl, h2⟩
    have H2 := Lib.hid h2; clear h2
    go_wp2
    go_ret
    rw [HRR.out]
    exact ⟨rfl, H2.out⟩
end Go.Proofs.YtjjoffadieoaaaaGreatDoor
namespace Go.Proofs.YtjjoffadieoaaaaGreatDoor
open Go.RowKit

set_option maxRecDepth 100000 in
set_option maxHeartbeats 1000000 in
theorem ahead_neg {s : ByteArray} {n : Nat} (hA : AH s n) {w0 wa w : World} {g p : Nat} {cs : List CM} (h : St w0 wa g s p cs w) (hO : Ops w0) (hb : nx s.data.toList p = 45) (hs : s.size ≤ 600) (hc : cs.length ≤ p) (hn : need s.data.toList .ahead p ≤ n + 1) :
    Calls Tryz.prog 116 #[rp g] w (RPost w0 wa g s (addD 7 (D s.data.toList n .ahead (p + 1) cs))) := by
  have hlt := nx_lt (s := s.data.toList) (p := p) (by rw [hb]; decide)
  have hnd : need s.data.toList .ahead (p + 1) ≤ n := by simp only [need] at *; omega
  rw [sz] at hlt
  have HX := Lib.hid (next_any h (by omega))
  have HS : Hid (∀ m, St w0 wa g s (p + 1) cs ((w.drewN m).setCell ⟨g, 1, none⟩ (.int .i64 ((p : Int) + 1)))) := fun m => (h.drewN m).setAt _ (by omega)
  have HJ : Hid (∀ m, Calls Tryz.prog 116 #[rp g] ((w.drewN m).setCell ⟨g, 1, none⟩ (.int .i64 ((p : Int) + 1))) (RPost w0 wa g s (D s.data.toList n .ahead (p + 1) cs))) := fun m => hA w0 wa _ g (p + 1) cs (HS.out m) hO hlt (by omega) hnd
  have hgo := goes s.data.toList n .ahead (p + 1) cs (by rw [sz]; exact hlt)
  have hfew := few s.data.toList n .ahead (p + 1) cs (by rw [sz]; exact hlt) trivial
  obtain ⟨b, p1, cs1, hr⟩ : ∃ b p1 cs1, D s.data.toList n .ahead (p + 1) cs = (b, p1, cs1) := ⟨_, _, _, rfl⟩
  rw [hr] at HJ hgo hfew ⊢
  have hp1 : p1 ≤ s.size := by have := hgo.le; rw [sz] at this; exact this
  have t40 : ((nx s.data.toList p).toNat : Int) = 45 := by rw [hb]; rfl
  have HT := Lib.hid t40
  obtain ⟨v, ⟨c0, c1, c2, f1, f2⟩, hbox, hown⟩ := h.at_
  obtain ⟨i0, hi0, hz0, hz1, hz2⟩ := info_parts Tryz.infoCell
  have HI := Lib.hid hi0; have HZ0 := Lib.hid hz0; have HZ1 := Lib.hid hz1; have HZ2 := Lib.hid hz2
  clear hi0 hz0 hz1 hz2 hbox hown h hr hgo t40 hb hA HS
  unfold rp at *
  cases b
  · clear hfew
    go_enter Tryz.func116, Tryz.ntmps116
    go_wp2_with fail
    refine HX.out.mono ?_
    rintro e w1 ⟨rfl, m, rfl⟩
    rw [HT.out]
    go_wp2_with fail
    refine (HJ.out m).mono ?_
    rintro e w1 ⟨rfl, h1⟩
    have H1 := Lib.hid h1; clear h1
    go_wp2
    go_ret
    exact ⟨rfl, H1.out⟩
  · have hfc : cs1.length ≤ 600 := by have := hfew rfl; simp only at this; omega
    clear hfew
    go_enter Tryz.func116, Tryz.ntmps116
    go_wp2_with fail
    refine HX.out.mono ?_
    rintro e w1 ⟨rfl, m, rfl⟩
    rw [HT.out]
    go_wp2_with fail
    refine (HJ.out m).mono ?_
    rintro e w1 ⟨rfl, h1⟩
    clear c0 c1 c2 f1 f2
    obtain ⟨v1, ⟨c0, c1, c2, f1, f2⟩, hbox, hown⟩ := h1.at_
    have H1 := Lib.hid h1; have HBX := Lib.hid hbox; have HOWN := Lib.hid hown; have HNE := Lib.hid (own_ne hown hbox)
    have hgl := h1.lt
    have hWs := h1.size
    clear h1 hbox hown
    go_wp2_with (at_builtin; refine wpList_append_own _ rfl _ _ 57 rfl w0.heap.size 93 i0 _ 3 32 Tryz.underlying57 HI.out HZ0.out HZ1.out HZ2.out rfl (by decide) v1 cs1.length (flat cs1) rfl (HOWN.out.alloc _) ⟨w1.heap.size, 0, none⟩ 1 1 (cellV (opC 7)) rfl rfl (one_wide w1 _ _ _ _) (one_vals (opC 7)) (by unfold maxLen; omega) (by omega) (by simp; omega) ?_)
    intro v' w2 hown' hgrow _
    obtain ⟨gg, cap, rfl, _, _⟩ := hown'.form (by omega)
    obtain ⟨k2, kf2⟩ := push_far hgrow hgl HNE.out c2 f2
    have HH : Hid (St w0 wa g s p1 (cs1 ++ [opC 7]) (w2.setCell ⟨g, 2, none⟩ (.slice (some ⟨gg, 0, none⟩) (cs1.length + 1) cap))) := by
      refine H1.out.push HBX.out HOWN.out (w1 := w1.alloc (.cells #[.int .i64 (opC 7).op, .int .i64 (opC 7).a, bstr (opC 7).nm] 93)) ((Below.refl _ _).alloc (Nat.le_refl _) _) ?_ hgrow
      rw [flat_append, flat_one, List.length_append]
      exact hown'
    clear hown' hgrow
    go_wp2
    go_ret
    exact ⟨rfl, HH.out⟩

set_option maxRecDepth 100000 in
set_option maxHeartbeats 1000000 in
theorem ahead_not {s : ByteArray} {n : Nat} (hA : AH s n) {w0 wa w : World} {g p : Nat} {cs : List CM} (h : St w0 wa g s p cs w) (hO : Ops w0) (hb : nx s.data.toList p = 33) (hs : s.size ≤ 600) (hc : cs.length ≤ p) (hn : need s.data.toList .ahead p ≤ n + 1) :
    Calls Tryz.prog 116 #[rp g] w (RPost w0 wa g s (addD 8 (D s.data.toList n .ahead (p + 1) cs))) := by
  have hlt := nx_lt (s := s.data.toList) (p := p) (by rw [hb]; decide)
  have hnd : need s.data.toList .ahead (p + 1) ≤ n := by simp only [need] at *; omega
  rw [sz] at hlt
  have HX := Lib.hid (next_any h (by omega))
  have HS : Hid (∀ m, St w0 wa g s (p + 1) cs ((w.drewN m).setCell ⟨g, 1, none⟩ (.int .i64 ((p : Int) + 1)))) := fun m => (h.drewN m).setAt _ (by omega)
  have HJ : Hid (∀ m, Calls Tryz.prog 116 #[rp g] ((w.drewN m).setCell ⟨g, 1, none⟩ (.int .i64 ((p : Int) + 1))) (RPost w0 wa g s (D s.data.toList n .ahead (p + 1) cs))) := fun m => hA w0 wa _ g (p + 1) cs (HS.out m) hO hlt (by omega) hnd
  have hgo := goes s.data.toList n .ahead (p + 1) cs (by rw [sz]; exact hlt)
  have hfew := few s.data.toList n .ahead (p + 1) cs (by rw [sz]; exact hlt) trivial
  obtain ⟨b, p1, cs1, hr⟩ : ∃ b p1 cs1, D s.data.toList n .ahead (p + 1) cs = (b, p1, cs1) := ⟨_, _, _, rfl⟩
  rw [hr] at HJ hgo hfew ⊢
  have hp1 : p1 ≤ s.size := by have := hgo.le; rw [sz] at this; exact this
  have t40 : ((nx s.data.toList p).toNat : Int) = 33 := by rw [hb]; rfl
  have HT := Lib.hid t40
  obtain ⟨v, ⟨c0, c1, c2, f1, f2⟩, hbox, hown⟩ := h.at_
  obtain ⟨i0, hi0, hz0, hz1, hz2⟩ := info_parts Tryz.infoCell
  have HI := Lib.hid hi0; have HZ0 := Lib.hid hz0; have HZ1 := Lib.hid hz1; have HZ2 := Lib.hid hz2
  clear hi0 hz0 hz1 hz2 hbox hown h hr hgo t40 hb hA HS
  unfold rp at *
  cases b
  · clear hfew
    go_enter Tryz.func116, Tryz.ntmps116
    go_wp2_with fail
    refine HX.out.mono ?_
    rintro e w1 ⟨rfl, m, rfl⟩
    rw [HT.out]
    go_wp2_with fail
    refine (HJ.out m).mono ?_
    rintro e w1 ⟨rfl, h1⟩
    have H1 := Lib.hid h1; clear h1
    go_wp2
    go_ret
    exact ⟨rfl, H1.out⟩
  · have hfc : cs1.length ≤ 600 := by have := hfew rfl; simp only at this; omega
    clear hfew
    go_enter Tryz.func116, Tryz.ntmps116
    go_wp2_with fail
    refine HX.out.mono ?_
    rintro e w1 ⟨rfl, m, rfl⟩
    rw [HT.out]
    go_wp2_with fail
    refine (HJ.out m).mono ?_
    rintro e w1 ⟨rfl, h1⟩
    clear c0 c1 c2 f1 f2
    obtain ⟨v1, ⟨c0, c1, c2, f1, f2⟩, hbox, hown⟩ := h1.at_
    have H1 := Lib.hid h1; have HBX := Lib.hid hbox; have HOWN := Lib.hid hown; have HNE := Lib.hid (own_ne hown hbox)
    have hgl := h1.lt
    have hWs := h1.size
    clear h1 hbox hown
    go_wp2_with (at_builtin; refine wpList_append_own _ rfl _ _ 57 rfl w0.heap.size 93 i0 _ 3 32 Tryz.underlying57 HI.out HZ0.out HZ1.out HZ2.out rfl (by decide) v1 cs1.length (flat cs1) rfl (HOWN.out.alloc _) ⟨w1.heap.size, 0, none⟩ 1 1 (cellV (opC 8)) rfl rfl (one_wide w1 _ _ _ _) (one_vals (opC 8)) (by unfold maxLen; omega) (by omega) (by simp; omega) ?_)
    intro v' w2 hown' hgrow _
    obtain ⟨gg, cap, rfl, _, _⟩ := hown'.form (by omega)
    obtain ⟨k2, kf2⟩ := push_far hgrow hgl HNE.out c2 f2
    have HH : Hid (St w0 wa g s p1 (cs1 ++ [opC 8]) (w2.setCell ⟨g, 2, none⟩ (.slice (some ⟨gg, 0, none⟩) (cs1.length + 1) cap))) := by
      refine H1.out.push HBX.out HOWN.out (w1 := w1.alloc (.cells #[.int .i64 (opC 8).op, .int .i64 (opC 8).a, bstr (opC 8).nm] 93)) ((Below.refl _ _).alloc (Nat.le_refl _) _) ?_ hgrow
      rw [flat_append, flat_one, List.length_append]
      exact hown'
    clear hown' hgrow
    go_wp2
    go_ret
    exact ⟨rfl, HH.out⟩

theorem operand_any {s : ByteArray} {n : Nat} (hJ : JH s n) {w0 wa w : World} {g p : Nat} {cs : List CM} (h : St w0 wa g s p cs w) (hO : Ops w0) (hp : p ≤ s.size) (hs : s.size ≤ 600) (hc : cs.length ≤ p) (hn : need s.data.toList .ahead p ≤ n + 1) :
    Calls Tryz.prog 135 #[rp g] w (RPost w0 wa g s (operandD s.data.toList n p cs)) := by
  unfold operandD
  by_cases h40 : nx s.data.toList p = 40
  · rw [if_pos h40]; exact operand_paren hJ h hO h40 hs hc hn
  · rw [if_neg h40]
    cases hd : isD (nx s.data.toList p)
    · rw [if_neg (by decide)]; exact operand_word hJ h hO h40 hd hp hs hc hn
    · rw [if_pos rfl]; exact operand_num h hd hs hc

theorem ahead_any {s : ByteArray} {n : Nat} (hs : s.size ≤ 600) (hJ : JH s n) (hA : AH s n) : AH s (n + 1) := by
  intro w0 wa w g p cs h hO hp hc hn
  rw [D_ahead]
  by_cases h45 : nx s.data.toList p = 45
  · rw [if_pos h45]; exact ahead_neg hA h hO h45 hs hc hn
  · rw [if_neg h45]
    by_cases h33 : nx s.data.toList p = 33
    · rw [if_pos h33]; exact ahead_not hA h hO h33 hs hc hn
    · rw [if_neg h33]
      have HX := Lib.hid (next_any h hp)
      have HI : Hid (∀ m, Calls Tryz.prog 135 #[rp g] (w.drewN m) (RPost w0 wa g s (operandD s.data.toList n p cs))) := fun m => operand_any hJ (h.drewN m) hO hp hs hc hn
      change Calls Tryz.prog 116 #[rp g] w (RPost w0 wa g s (operandD s.data.toList n p cs))
      generalize operandD s.data.toList n p cs = R at HI ⊢
      have t45 : (((nx s.data.toList p).toNat : Int) == 45) = false := byte_not (k := 45) (by decide) h45
      have t33 : (((nx s.data.toList p).toNat : Int) == 33) = false := byte_not (k := 33) (by decide) h33
      clear h h45 h33 hJ hA
      unfold rp at *
      go_enter Tryz.func116, Tryz.ntmps116
      go_wp2_with fail
      refine HX.out.mono ?_
      rintro e w1 ⟨rfl, m, rfl⟩
      go_wp2_with fail
      refine (HI.out m).mono ?_
      rintro e w1 ⟨rfl, h1⟩
      have H1 := Lib.hid h1; clear h1
      go_wp2
      go_ret
      exact ⟨rfl, H1.out⟩
end Go.Proofs.YtjjoffadieoaaaaGreatDoor
