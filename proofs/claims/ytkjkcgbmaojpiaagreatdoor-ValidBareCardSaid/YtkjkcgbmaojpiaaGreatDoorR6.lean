/- Own texts, joined: Ek, El, Em. -/
import Derived.Test.YtkjkcgbmaojpiaaGreatDoorR5
namespace Go.Proofs.YtkjkcgbmaojpiaaGreatDoor
open Go.RowKit
def operandD (s : List UInt8) (n p : Nat) (cs : List CM) : Rs :=
 if nx s p = 40 then closeD s (D s n (.joins 1) (p + 1) cs) else if isD (nx s p) = true then numD s p cs else wordD s p cs (wordP s p) (D s n (.joins 1) (p + 3) cs)
theorem operand_paren {s : ByteArray} {n : Nat} (hJ : JH s n) {w0 wa w : World} {g p : Nat} {cs : List CM} (h : St w0 wa g s p cs w) (hO : Ops w0) (h40 : nx s.data.toList p = 40) (hs : s.size ≤ 600) (hc : cs.length ≤ p) (hn : need s.data.toList .ahead p ≤ n + 1) :
  Calls Tryz.prog 197 #[rp g] w (RPost w0 wa g s (closeD s.data.toList (D s.data.toList n (.joins 1) (p + 1) cs))) := by
 have hlt := nx_lt (s := s.data.toList) (p := p) (by rw [h40]; decide)
 have hnd : need s.data.toList (.joins 1) (p + 1) ≤ n := by simp only [need] at *; omega
 rw [sz] at hlt
 have HX := Lib.hid (next_any h (by omega))
 have HI : Hid (∀ m, Calls Tryz.prog 221 #[rp g] (w.drewN m) (RPost w0 wa g s (closeD s.data.toList (D s.data.toList n (.joins 1) (p + 1) cs)))) := fun m => inside_any hJ (h.drewN m) hO hlt hs hc hnd
 have t40 : ((nx s.data.toList p).toNat : Int) = 40 := by rw [h40]; rfl
 have HT := Lib.hid t40
 clear h t40 h40 hJ
 unfold rp at *
 go_enter Tryz.func197, Tryz.ntmps197
 go_wp2_with fail
 refine HX.out.mono ?_
 rintro e w1 ⟨rfl, m, rfl⟩
 rw [HT.out]
 go_wp2_with fail
 refine (HI.out m).mono ?_
 rintro e w2 ⟨rfl, h2⟩
 have H2 := Lib.hid h2; clear h2
 go_wp2
 go_ret
 exact ⟨rfl, H2.out⟩
theorem operand_num {s : ByteArray} {w0 wa w : World} {g p : Nat} {cs : List CM} (h : St w0 wa g s p cs w) (hd : isD (nx s.data.toList p) = true) (hs : s.size ≤ 600) (hc : cs.length ≤ p) :
  Calls Tryz.prog 197 #[rp g] w (RPost w0 wa g s (numD s.data.toList p cs)) := by
 have hlt := nx_lt (s := s.data.toList) (p := p) (by intro e; rw [e] at hd; exact absurd hd (by decide))
 rw [sz] at hlt
 have HX := Lib.hid (next_any h (by omega))
 have HI : Hid (∀ m, Calls Tryz.prog 223 #[rp g] (w.drewN m) (RPost w0 wa g s (numD s.data.toList p cs))) := fun m => number_walk (h.drewN m) hlt hd hs (by omega)
 have t40 : (((nx s.data.toList p).toNat : Int) == 40) = false := byte_not (k := 40) (by decide) (fun e => by rw [e] at hd; exact absurd hd (by decide))
 have HD := Lib.hid hd
 clear h hd
 unfold rp at *
 go_enter Tryz.func197, Tryz.ntmps197
 go_wp2_with fail
 refine HX.out.mono ?_
 rintro e w1 ⟨rfl, m, rfl⟩
 go_wp2_with fail
 refine (exDigit_any _ _).mono ?_
 rintro e w1 ⟨rfl, rfl⟩
 rw [HD.out]
 go_wp2_with fail
 refine (HI.out m).mono ?_
 rintro e w2 ⟨rfl, h2⟩
 have H2 := Lib.hid h2; clear h2
 go_wp2
 go_ret
 exact ⟨rfl, H2.out⟩
theorem is_list {X : ByteArray} {l : List UInt8} : (X.toList == l) = decide (X.data.toList = l) := by
 rw [Lib.toList_data]
 by_cases h : X.data.toList = l
 ·simp [h]
 ·rw [decide_eq_false h]; exact beq_eq_false_iff_ne.2 h
set_option maxRecDepth 100000 in
set_option maxHeartbeats 4000000 in
theorem operand_word {s : ByteArray} {n : Nat} (hJ : JH s n) {w0 wa w : World} {g p : Nat} {cs : List CM} (h : St w0 wa g s p cs w) (hO : Ops w0) (h40 : nx s.data.toList p ≠ 40) (hd : isD (nx s.data.toList p) = false) (hp : p ≤ s.size) (hs : s.size ≤ 600) (hc : cs.length ≤ p) (hn : need s.data.toList .ahead p ≤ n + 1) :
  Calls Tryz.prog 197 #[rp g] w (RPost w0 wa g s (wordD s.data.toList p cs (wordP s.data.toList p) (D s.data.toList n (.joins 1) (p + 3) cs))) := by
 have HX := Lib.hid (next_any h hp)
 have HWD : Hid (∀ m, Calls Tryz.prog 224 #[rp g] (w.drewN m) fun e w' => e = .returned (bstr (wordP s.data.toList p)) ∧ ∃ n, w' = (w.drewN m).drewN n) := fun m => word_any (h.drewN m) hp hs
 have hwl := word_len s p hp
 obtain ⟨X, hX⟩ : ∃ X : ByteArray, X = ⟨(wordP s.data.toList p).toArray⟩ := ⟨_, rfl⟩
 have hXl : X.data.toList = wordP s.data.toList p := by rw [hX]
 have hXz : (wordP s.data.toList p).length = X.size := by rw [← sz X, hXl]
 have hXs : p + X.size ≤ s.size := by rw [← hXz]; exact hwl
 have HXV : Hid (bstr (wordP s.data.toList p) = .string X) := by rw [hX]; rfl
 obtain ⟨R, hR⟩ : ∃ R, wordD s.data.toList p cs (wordP s.data.toList p) (D s.data.toList n (.joins 1) (p + 3) cs) = R := ⟨_, rfl⟩
 have hRX : R = if X.data.toList = [116, 114, 117, 101] then (true, p + 4, cs ++ [opC 3]) else if X.data.toList = [102, 97, 108, 115, 101] then (true, p + 5, cs ++ [opC 4])
   else if nameB X.data.toList = true then (true, p + X.size, cs ++ [⟨5, 0, X.data.toList⟩]) else if nx s.data.toList (p + X.size) ≠ 40 then (false, p, cs)
   else if X.data.toList = [105, 110] then stateD s.data.toList p cs else if X.data.toList = [114, 101] then addD 9 (closeD s.data.toList (D s.data.toList n (.joins 1) (p + 3) cs))
   else if X.data.toList = [105, 109] then addD 10 (closeD s.data.toList (D s.data.toList n (.joins 1) (p + 3) cs)) else (false, p, cs) := by
  rw [← hR, hXl, ← hXz]; rfl
 rw [hR]
 have HRX := Lib.hid hRX
 have HST := Lib.hid h
 have t40 : (((nx s.data.toList p).toNat : Int) == 40) = false := byte_not (k := 40) (by decide) h40
 have HD := Lib.hid hd
 have HJ := Lib.hid hJ
 have hgl := h.lt
 obtain ⟨v, ⟨c0, c1, c2, f1, f2⟩, hbox, hown⟩ := h.at_
 have hq0 : (0 : Int) ≤ (p : Int) + (X.size : Int) := by omega
 have hq1 : (p : Int) + (X.size : Int) ≤ s.size := by omega
 have hq6 : IntKind.i64.wrap ((p : Int) + (X.size : Int)) = (p : Int) + (X.size : Int) := IntWalk.i64_in _ (by omega)
 have hq7 : ((p : Int) + (X.size : Int)).toNat = p + X.size := by omega
 have HQ := Lib.hid (And.intro hq0 (And.intro hq1 (And.intro hq6 hq7)))
 clear hbox hown hX hXl hXz hwl h h40 hd hJ hR hRX hq0 hq1 hq6 hq7
 have hl : ∀ l : List UInt8, (X.toList == l) = decide (X.data.toList = l) := fun l => is_list
 cases b1 : X.toList == [116, 114, 117, 101]
 ·cases b2 : X.toList == [102, 97, 108, 115, 101]
  ·cases hnm : nameB X.data.toList
   ·have HNM := Lib.hid hnm
    by_cases h4 : nx s.data.toList (p + X.size) = 40
    ·have hp3 := nx_lt (s := s.data.toList) (p := p + X.size) (by rw [h4]; decide)
     rw [sz] at hp3
     have HH4 : Hid ((nx s.data.toList (p + X.size) == 40) = true) := by rw [h4]; rfl
     cases b3 : X.toList == [105, 110]
     ·cases b4 : X.toList == [114, 101]
      ·cases b5 : X.toList == [105, 109]
       ·have HRR : Hid (R = (false, p, cs)) := by
         have e1 := b1; have e2 := b2; have e3 := b3; have e4 := b4; have e5 := b5
         rw [hl, decide_eq_false_iff_not] at e1 e2 e3 e4 e5
         rw [HRX.out, if_neg e1, if_neg e2, hnm, if_neg (by decide), if_neg (by simp [h4]), if_neg e3, if_neg e4, if_neg e5]; exact rfl
        clear HRX hl hnm h4
        unfold rp at *
        go_enter Tryz.func197, Tryz.ntmps197
        go_wp2_with fail
        refine HX.out.mono ?_
        rintro e w1 ⟨rfl, m, rfl⟩
        go_wp2_with fail
        refine (exDigit_any _ _).mono ?_
        rintro e w1 ⟨rfl, rfl⟩
        rw [HD.out]
        go_wp2_with fail
        refine (HWD.out m).mono ?_
        rintro e w1 ⟨rfl, m2, rfl⟩
        rw [HXV.out]
        go_wp2_with fail
        refine (name_any X _).mono ?_
        rintro e w1 ⟨rfl, rfl⟩
        rw [HNM.out]
        go_wp2_with fail
        obtain ⟨hq0, hq1, hq6, hq7⟩ := HQ.out
        go_quiet ((go_at_call 198; first | exact quiet_at (prefix_at s 40 (p + X.size) (by decide) hXs _) | exact quiet_on (prefix_at s 40 (p + X.size) (by decide) hXs _)))
        clear hq0 hq1 hq6 hq7
        rw [HH4.out]
        go_wp2
        go_ret
        rw [HRR.out]
        exact ⟨rfl, by first | exact HST.out.drewN _ | exact (HST.out.drewN _).drewN _⟩
       ·have e5 := b5
        rw [hl, decide_eq_true_iff] at e5
        have hx2 : X.size = 2 := by rw [← sz X, e5]; rfl
        have hnd : need s.data.toList (.joins 1) (p + 3) ≤ n := by simp only [need, sz] at *; omega
        have HRR : Hid (R = addD 10 (closeD s.data.toList (D s.data.toList n (.joins 1) (p + 3) cs))) := by
         have e1 := b1; have e2 := b2; have e3 := b3; have e4 := b4
         rw [hl, decide_eq_false_iff_not] at e1 e2 e3 e4
         rw [HRX.out, if_neg e1, if_neg e2, hnm, if_neg (by decide), if_neg (by simp [h4]), if_neg e3, if_neg e4, if_pos e5]; exact rfl
        have HC : Hid (∀ W, St w0 wa g s p cs W → Calls Tryz.prog 227 #[rp g, .string X, .int .i64 10] W (RPost w0 wa g s R)) := by
         intro W hW
         rw [HRR.out]
         exact part_any HJ.out hW hO X 10 hx2 (by omega) hs hc hnd
        clear HRX hl hnm h4 e5 hx2 hnd HRR HJ
        unfold rp at *
        go_enter Tryz.func197, Tryz.ntmps197
        go_wp2_with fail
        refine HX.out.mono ?_
        rintro e w1 ⟨rfl, m, rfl⟩
        go_wp2_with fail
        refine (exDigit_any _ _).mono ?_
        rintro e w1 ⟨rfl, rfl⟩
        rw [HD.out]
        go_wp2_with fail
        refine (HWD.out m).mono ?_
        rintro e w1 ⟨rfl, m2, rfl⟩
        rw [HXV.out]
        go_wp2_with fail
        refine (name_any X _).mono ?_
        rintro e w1 ⟨rfl, rfl⟩
        rw [HNM.out]
        go_wp2_with fail
        obtain ⟨hq0, hq1, hq6, hq7⟩ := HQ.out
        go_quiet ((go_at_call 198; first | exact quiet_at (prefix_at s 40 (p + X.size) (by decide) hXs _) | exact quiet_on (prefix_at s 40 (p + X.size) (by decide) hXs _)))
        clear hq0 hq1 hq6 hq7
        rw [HH4.out]
        go_wp2_with fail
        refine (HC.out _ (by first | exact HST.out.drewN _ | exact (HST.out.drewN _).drewN _)).mono ?_
        rintro e w2 ⟨rfl, h2⟩
        have H2 := Lib.hid h2; clear h2
        go_wp2
        go_ret
        exact ⟨rfl, H2.out⟩
      ·have e4 := b4
       rw [hl, decide_eq_true_iff] at e4
       have hx2 : X.size = 2 := by rw [← sz X, e4]; rfl
       have hnd : need s.data.toList (.joins 1) (p + 3) ≤ n := by simp only [need, sz] at *; omega
       have HRR : Hid (R = addD 9 (closeD s.data.toList (D s.data.toList n (.joins 1) (p + 3) cs))) := by
        have e1 := b1; have e2 := b2; have e3 := b3
        rw [hl, decide_eq_false_iff_not] at e1 e2 e3
        rw [HRX.out, if_neg e1, if_neg e2, hnm, if_neg (by decide), if_neg (by simp [h4]), if_neg e3, if_pos e4]; exact rfl
       have HC : Hid (∀ W, St w0 wa g s p cs W → Calls Tryz.prog 227 #[rp g, .string X, .int .i64 9] W (RPost w0 wa g s R)) := by
        intro W hW
        rw [HRR.out]
        exact part_any HJ.out hW hO X 9 hx2 (by omega) hs hc hnd
       clear HRX hl hnm h4 e4 hx2 hnd HRR HJ
       unfold rp at *
       go_enter Tryz.func197, Tryz.ntmps197
       go_wp2_with fail
       refine HX.out.mono ?_
       rintro e w1 ⟨rfl, m, rfl⟩
       go_wp2_with fail
       refine (exDigit_any _ _).mono ?_
       rintro e w1 ⟨rfl, rfl⟩
       rw [HD.out]
       go_wp2_with fail
       refine (HWD.out m).mono ?_
       rintro e w1 ⟨rfl, m2, rfl⟩
       rw [HXV.out]
       go_wp2_with fail
       refine (name_any X _).mono ?_
       rintro e w1 ⟨rfl, rfl⟩
       rw [HNM.out]
       go_wp2_with fail
       obtain ⟨hq0, hq1, hq6, hq7⟩ := HQ.out
       go_quiet ((go_at_call 198; first | exact quiet_at (prefix_at s 40 (p + X.size) (by decide) hXs _) | exact quiet_on (prefix_at s 40 (p + X.size) (by decide) hXs _)))
       clear hq0 hq1 hq6 hq7
       rw [HH4.out]
       go_wp2_with fail
       refine (HC.out _ (by first | exact HST.out.drewN _ | exact (HST.out.drewN _).drewN _)).mono ?_
       rintro e w2 ⟨rfl, h2⟩
       have H2 := Lib.hid h2; clear h2
       go_wp2
       go_ret
       exact ⟨rfl, H2.out⟩
     ·have e3 := b3
      rw [hl, decide_eq_true_iff] at e3
      have hx2 : X.size = 2 := by rw [← sz X, e3]; rfl
      have HRR : Hid (R = stateD s.data.toList p cs) := by
       have e1 := b1; have e2 := b2
       rw [hl, decide_eq_false_iff_not] at e1 e2
       rw [HRX.out, if_neg e1, if_neg e2, hnm, if_neg (by decide), if_neg (by simp [h4]), if_pos e3]; exact rfl
      have HC : Hid (∀ W, St w0 wa g s p cs W → Calls Tryz.prog 226 #[rp g] W (RPost w0 wa g s R)) := by
       intro W hW
       rw [HRR.out]
       exact state_any hW (by omega) hs (by omega)
      clear HRX hl hnm h4 e3 hx2 HRR HJ
      unfold rp at *
      go_enter Tryz.func197, Tryz.ntmps197
      go_wp2_with fail
      refine HX.out.mono ?_
      rintro e w1 ⟨rfl, m, rfl⟩
      go_wp2_with fail
      refine (exDigit_any _ _).mono ?_
      rintro e w1 ⟨rfl, rfl⟩
      rw [HD.out]
      go_wp2_with fail
      refine (HWD.out m).mono ?_
      rintro e w1 ⟨rfl, m2, rfl⟩
      rw [HXV.out]
      go_wp2_with fail
      refine (name_any X _).mono ?_
      rintro e w1 ⟨rfl, rfl⟩
      rw [HNM.out]
      go_wp2_with fail
      obtain ⟨hq0, hq1, hq6, hq7⟩ := HQ.out
      go_quiet ((go_at_call 198; first | exact quiet_at (prefix_at s 40 (p + X.size) (by decide) hXs _) | exact quiet_on (prefix_at s 40 (p + X.size) (by decide) hXs _)))
      clear hq0 hq1 hq6 hq7
      rw [HH4.out]
      go_wp2_with fail
      refine (HC.out _ (by first | exact HST.out.drewN _ | exact (HST.out.drewN _).drewN _)).mono ?_
      rintro e w2 ⟨rfl, h2⟩
      have H2 := Lib.hid h2; clear h2
      go_wp2
      go_ret
      exact ⟨rfl, H2.out⟩
    ·have HH4 : Hid ((nx s.data.toList (p + X.size) == 40) = false) := beq_eq_false_iff_ne.2 h4
     have HRR : Hid (R = (false, p, cs)) := by
      have e1 := b1; have e2 := b2
      rw [hl, decide_eq_false_iff_not] at e1 e2
      rw [HRX.out, if_neg e1, if_neg e2, hnm, if_neg (by decide), if_pos h4]; exact rfl
     clear HRX hl hnm h4
     unfold rp at *
     go_enter Tryz.func197, Tryz.ntmps197
     go_wp2_with fail
     refine HX.out.mono ?_
     rintro e w1 ⟨rfl, m, rfl⟩
     go_wp2_with fail
     refine (exDigit_any _ _).mono ?_
     rintro e w1 ⟨rfl, rfl⟩
     rw [HD.out]
     go_wp2_with fail
     refine (HWD.out m).mono ?_
     rintro e w1 ⟨rfl, m2, rfl⟩
     rw [HXV.out]
     go_wp2_with fail
     refine (name_any X _).mono ?_
     rintro e w1 ⟨rfl, rfl⟩
     rw [HNM.out]
     go_wp2_with fail
     obtain ⟨hq0, hq1, hq6, hq7⟩ := HQ.out
     go_quiet ((go_at_call 198; first | exact quiet_at (prefix_at s 40 (p + X.size) (by decide) hXs _) | exact quiet_on (prefix_at s 40 (p + X.size) (by decide) hXs _)))
     clear hq0 hq1 hq6 hq7
     rw [HH4.out]
     go_wp2
     go_ret
     rw [HRR.out]
     exact ⟨rfl, by first | exact HST.out.drewN _ | exact (HST.out.drewN _).drewN _⟩
   ·have HNM := Lib.hid hnm
    have HRR : Hid (R = (true, p + X.size, cs ++ [⟨5, 0, X.data.toList⟩])) := by
     have e1 := b1; have e2 := b2
     rw [hl, decide_eq_false_iff_not] at e1 e2
     rw [HRX.out, if_neg e1, if_neg e2, if_pos hnm]; exact rfl
    clear HRX hl hnm
    unfold rp at *
    go_enter Tryz.func197, Tryz.ntmps197
    go_wp2_with fail
    refine HX.out.mono ?_
    rintro e w1 ⟨rfl, m, rfl⟩
    go_wp2_with fail
    refine (exDigit_any _ _).mono ?_
    rintro e w1 ⟨rfl, rfl⟩
    rw [HD.out]
    go_wp2_with fail
    refine (HWD.out m).mono ?_
    rintro e w1 ⟨rfl, m2, rfl⟩
    rw [HXV.out]
    go_wp2_with fail
    refine (name_any X _).mono ?_
    rintro e w1 ⟨rfl, rfl⟩
    rw [HNM.out]
    go_wp2_with fail
    refine (clone_any X _ (by omega)).mono ?_
    rintro e w1 ⟨rfl, hb⟩
    have H1 : Hid (St w0 wa g s p cs w1) := by first | exact (HST.out.drewN _).to_below hb | exact ((HST.out.drewN _).drewN _).to_below hb
    clear hb
    go_wp2_with fail
    refine (take_any H1.out X ⟨5, 0, X.data.toList⟩ hXs hs (by omega)).mono ?_
    rintro e w2 ⟨rfl, h2⟩
    have H2 := Lib.hid h2; clear h2
    go_wp2
    go_ret
    rw [HRR.out]
    exact ⟨rfl, H2.out⟩
  ·have e2 := b2
   rw [hl, decide_eq_true_iff] at e2
   have hx5 : X.size = 5 := by rw [← sz X, e2]; rfl
   have HRR : Hid (R = (true, p + X.size, cs ++ [opC 4])) := by
    have e1 := b1
    rw [hl, decide_eq_false_iff_not] at e1
    rw [HRX.out, if_neg e1, if_pos e2, hx5]; exact rfl
   clear HRX hl e2 hx5
   unfold rp at *
   go_enter Tryz.func197, Tryz.ntmps197
   go_wp2_with fail
   refine HX.out.mono ?_
   rintro e w1 ⟨rfl, m, rfl⟩
   go_wp2_with fail
   refine (exDigit_any _ _).mono ?_
   rintro e w1 ⟨rfl, rfl⟩
   rw [HD.out]
   go_wp2_with fail
   refine (HWD.out m).mono ?_
   rintro e w1 ⟨rfl, m2, rfl⟩
   rw [HXV.out]
   go_wp2_with fail
   refine (take_any (by first | exact HST.out.drewN _ | exact (HST.out.drewN _).drewN _) X (opC 4) hXs hs (by omega)).mono ?_
   rintro e w2 ⟨rfl, h2⟩
   have H2 := Lib.hid h2; clear h2
   go_wp2
   go_ret
   rw [HRR.out]
   exact ⟨rfl, H2.out⟩
 ·have e1 := b1
  rw [hl, decide_eq_true_iff] at e1
  have hx4 : X.size = 4 := by rw [← sz X, e1]; rfl
  have HRR : Hid (R = (true, p + X.size, cs ++ [opC 3])) := by rw [HRX.out, if_pos e1, hx4]; exact rfl
  clear HRX hl e1 hx4
  unfold rp at *
  go_enter Tryz.func197, Tryz.ntmps197
  go_wp2_with fail
  refine HX.out.mono ?_
  rintro e w1 ⟨rfl, m, rfl⟩
  go_wp2_with fail
  refine (exDigit_any _ _).mono ?_
  rintro e w1 ⟨rfl, rfl⟩
  rw [HD.out]
  go_wp2_with fail
  refine (HWD.out m).mono ?_
  rintro e w1 ⟨rfl, m2, rfl⟩
  rw [HXV.out]
  go_wp2_with fail
  refine (take_any (by first | exact HST.out.drewN _ | exact (HST.out.drewN _).drewN _) X (opC 3) hXs hs (by omega)).mono ?_
  rintro e w2 ⟨rfl, h2⟩
  have H2 := Lib.hid h2; clear h2
  go_wp2
  go_ret
  rw [HRR.out]
  exact ⟨rfl, H2.out⟩
end Go.Proofs.YtkjkcgbmaojpiaaGreatDoor
namespace Go.Proofs.YtkjkcgbmaojpiaaGreatDoor
open Go.RowKit
set_option maxRecDepth 100000 in
set_option maxHeartbeats 1000000 in
theorem ahead_neg {s : ByteArray} {n : Nat} (hA : AH s n) {w0 wa w : World} {g p : Nat} {cs : List CM} (h : St w0 wa g s p cs w) (hO : Ops w0) (hb : nx s.data.toList p = 45) (hs : s.size ≤ 600) (hc : cs.length ≤ p) (hn : need s.data.toList .ahead p ≤ n + 1) :
  Calls Tryz.prog 174 #[rp g] w (RPost w0 wa g s (addD 7 (D s.data.toList n .ahead (p + 1) cs))) := by
 have hlt := nx_lt (s := s.data.toList) (p := p) (by rw [hb]; decide)
 have hnd : need s.data.toList .ahead (p + 1) ≤ n := by simp only [need] at *; omega
 rw [sz] at hlt
 have HX := Lib.hid (next_any h (by omega))
 have HS : Hid (∀ m, St w0 wa g s (p + 1) cs ((w.drewN m).setCell ⟨g, 1, none⟩ (.int .i64 ((p : Int) + 1)))) := fun m => (h.drewN m).setAt _ (by omega)
 have HJ : Hid (∀ m, Calls Tryz.prog 174 #[rp g] ((w.drewN m).setCell ⟨g, 1, none⟩ (.int .i64 ((p : Int) + 1))) (RPost w0 wa g s (D s.data.toList n .ahead (p + 1) cs))) := fun m => hA w0 wa _ g (p + 1) cs (HS.out m) hO hlt (by omega) hnd
 have hgo := goes s.data.toList n .ahead (p + 1) cs (by rw [sz]; exact hlt)
 have hfew := few s.data.toList n .ahead (p + 1) cs (by rw [sz]; exact hlt) trivial
 obtain ⟨b, p1, cs1, hr⟩ : ∃ b p1 cs1, D s.data.toList n .ahead (p + 1) cs = (b, p1, cs1) := ⟨_, _, _, rfl⟩
 rw [hr] at HJ hgo hfew ⊢
 have hp1 : p1 ≤ s.size := by have := hgo.le; rw [sz] at this; exact this
 have t40 : ((nx s.data.toList p).toNat : Int) = 45 := by rw [hb]; rfl
 have HT := Lib.hid t40
 obtain ⟨v, ⟨c0, c1, c2, f1, f2⟩, hbox, hown⟩ := h.at_
 obtain ⟨i0, hi0, hz0, hz1, hz2⟩ := info_parts Tryz.infoCell
 have HI := Lib.hid hi0; have HZ0 := Lib.hid hz0; have HZ1 := Lib.hid hz1; have HZ2 := Lib.hid hz2
 clear hi0 hz0 hz1 hz2 hbox hown h hr hgo t40 hb hA HS
 unfold rp at *
 cases b
 ·clear hfew
  go_enter Tryz.func174, Tryz.ntmps174
  go_wp2_with fail
  refine HX.out.mono ?_
  rintro e w1 ⟨rfl, m, rfl⟩
  rw [HT.out]
  go_wp2_with fail
  refine (HJ.out m).mono ?_
  rintro e w1 ⟨rfl, h1⟩
  have H1 := Lib.hid h1; clear h1
  go_wp2
  go_ret
  exact ⟨rfl, H1.out⟩
 ·have hfc : cs1.length ≤ 600 := by have := hfew rfl; simp only at this; omega
  clear hfew
  go_enter Tryz.func174, Tryz.ntmps174
  go_wp2_with fail
  refine HX.out.mono ?_
  rintro e w1 ⟨rfl, m, rfl⟩
  rw [HT.out]
  go_wp2_with fail
  refine (HJ.out m).mono ?_
  rintro e w1 ⟨rfl, h1⟩
  clear c0 c1 c2 f1 f2
  obtain ⟨v1, ⟨c0, c1, c2, f1, f2⟩, hbox, hown⟩ := h1.at_
  have H1 := Lib.hid h1; have HBX := Lib.hid hbox; have HOWN := Lib.hid hown; have HNE := Lib.hid (own_ne hown hbox)
  have hgl := h1.lt
  have hWs := h1.size
  clear h1 hbox hown
  go_wp2_with (at_builtin; refine wpList_append_own _ rfl _ _ 40 rfl w0.heap.size 144 i0 _ 3 32 Tryz.underlying40 HI.out HZ0.out HZ1.out HZ2.out rfl (by decide) v1 cs1.length (flat cs1) rfl (HOWN.out.alloc _) ⟨w1.heap.size, 0, none⟩ 1 1 (cellV (opC 7)) rfl rfl (one_wide w1 _ _ _ _) (one_vals (opC 7)) (by unfold maxLen; omega) (by omega) (by simp; omega) ?_)
  intro v' w2 hown' hgrow _
  obtain ⟨gg, cap, rfl, _, _⟩ := hown'.form (by omega)
  obtain ⟨k2, kf2⟩ := push_far hgrow hgl HNE.out c2 f2
  have HH : Hid (St w0 wa g s p1 (cs1 ++ [opC 7]) (w2.setCell ⟨g, 2, none⟩ (.slice (some ⟨gg, 0, none⟩) (cs1.length + 1) cap))) := by
   refine H1.out.push HBX.out HOWN.out (w1 := w1.alloc (.cells #[.int .i64 (opC 7).op, .int .i64 (opC 7).a, bstr (opC 7).nm] 144)) ((Below.refl _ _).alloc (Nat.le_refl _) _) ?_ hgrow
   rw [flat_append, flat_one, List.length_append]
   exact hown'
  clear hown' hgrow
  go_wp2
  go_ret
  exact ⟨rfl, HH.out⟩
set_option maxRecDepth 100000 in
set_option maxHeartbeats 1000000 in
theorem ahead_not {s : ByteArray} {n : Nat} (hA : AH s n) {w0 wa w : World} {g p : Nat} {cs : List CM} (h : St w0 wa g s p cs w) (hO : Ops w0) (hb : nx s.data.toList p = 33) (hs : s.size ≤ 600) (hc : cs.length ≤ p) (hn : need s.data.toList .ahead p ≤ n + 1) :
  Calls Tryz.prog 174 #[rp g] w (RPost w0 wa g s (addD 8 (D s.data.toList n .ahead (p + 1) cs))) := by
 have hlt := nx_lt (s := s.data.toList) (p := p) (by rw [hb]; decide)
 have hnd : need s.data.toList .ahead (p + 1) ≤ n := by simp only [need] at *; omega
 rw [sz] at hlt
 have HX := Lib.hid (next_any h (by omega))
 have HS : Hid (∀ m, St w0 wa g s (p + 1) cs ((w.drewN m).setCell ⟨g, 1, none⟩ (.int .i64 ((p : Int) + 1)))) := fun m => (h.drewN m).setAt _ (by omega)
 have HJ : Hid (∀ m, Calls Tryz.prog 174 #[rp g] ((w.drewN m).setCell ⟨g, 1, none⟩ (.int .i64 ((p : Int) + 1))) (RPost w0 wa g s (D s.data.toList n .ahead (p + 1) cs))) := fun m => hA w0 wa _ g (p + 1) cs (HS.out m) hO hlt (by omega) hnd
 have hgo := goes s.data.toList n .ahead (p + 1) cs (by rw [sz]; exact hlt)
 have hfew := few s.data.toList n .ahead (p + 1) cs (by rw [sz]; exact hlt) trivial
 obtain ⟨b, p1, cs1, hr⟩ : ∃ b p1 cs1, D s.data.toList n .ahead (p + 1) cs = (b, p1, cs1) := ⟨_, _, _, rfl⟩
 rw [hr] at HJ hgo hfew ⊢
 have hp1 : p1 ≤ s.size := by have := hgo.le; rw [sz] at this; exact this
 have t40 : ((nx s.data.toList p).toNat : Int) = 33 := by rw [hb]; rfl
 have HT := Lib.hid t40
 obtain ⟨v, ⟨c0, c1, c2, f1, f2⟩, hbox, hown⟩ := h.at_
 obtain ⟨i0, hi0, hz0, hz1, hz2⟩ := info_parts Tryz.infoCell
 have HI := Lib.hid hi0; have HZ0 := Lib.hid hz0; have HZ1 := Lib.hid hz1; have HZ2 := Lib.hid hz2
 clear hi0 hz0 hz1 hz2 hbox hown h hr hgo t40 hb hA HS
 unfold rp at *
 cases b
 ·clear hfew
  go_enter Tryz.func174, Tryz.ntmps174
  go_wp2_with fail
  refine HX.out.mono ?_
  rintro e w1 ⟨rfl, m, rfl⟩
  rw [HT.out]
  go_wp2_with fail
  refine (HJ.out m).mono ?_
  rintro e w1 ⟨rfl, h1⟩
  have H1 := Lib.hid h1; clear h1
  go_wp2
  go_ret
  exact ⟨rfl, H1.out⟩
 ·have hfc : cs1.length ≤ 600 := by have := hfew rfl; simp only at this; omega
  clear hfew
  go_enter Tryz.func174, Tryz.ntmps174
  go_wp2_with fail
  refine HX.out.mono ?_
  rintro e w1 ⟨rfl, m, rfl⟩
  rw [HT.out]
  go_wp2_with fail
  refine (HJ.out m).mono ?_
  rintro e w1 ⟨rfl, h1⟩
  clear c0 c1 c2 f1 f2
  obtain ⟨v1, ⟨c0, c1, c2, f1, f2⟩, hbox, hown⟩ := h1.at_
  have H1 := Lib.hid h1; have HBX := Lib.hid hbox; have HOWN := Lib.hid hown; have HNE := Lib.hid (own_ne hown hbox)
  have hgl := h1.lt
  have hWs := h1.size
  clear h1 hbox hown
  go_wp2_with (at_builtin; refine wpList_append_own _ rfl _ _ 40 rfl w0.heap.size 144 i0 _ 3 32 Tryz.underlying40 HI.out HZ0.out HZ1.out HZ2.out rfl (by decide) v1 cs1.length (flat cs1) rfl (HOWN.out.alloc _) ⟨w1.heap.size, 0, none⟩ 1 1 (cellV (opC 8)) rfl rfl (one_wide w1 _ _ _ _) (one_vals (opC 8)) (by unfold maxLen; omega) (by omega) (by simp; omega) ?_)
  intro v' w2 hown' hgrow _
  obtain ⟨gg, cap, rfl, _, _⟩ := hown'.form (by omega)
  obtain ⟨k2, kf2⟩ := push_far hgrow hgl HNE.out c2 f2
  have HH : Hid (St w0 wa g s p1 (cs1 ++ [opC 8]) (w2.setCell ⟨g, 2, none⟩ (.slice (some ⟨gg, 0, none⟩) (cs1.length + 1) cap))) := by
   refine H1.out.push HBX.out HOWN.out (w1 := w1.alloc (.cells #[.int .i64 (opC 8).op, .int .i64 (opC 8).a, bstr (opC 8).nm] 144)) ((Below.refl _ _).alloc (Nat.le_refl _) _) ?_ hgrow
   rw [flat_append, flat_one, List.length_append]
   exact hown'
  clear hown' hgrow
  go_wp2
  go_ret
  exact ⟨rfl, HH.out⟩
theorem operand_any {s : ByteArray} {n : Nat} (hJ : JH s n) {w0 wa w : World} {g p : Nat} {cs : List CM} (h : St w0 wa g s p cs w) (hO : Ops w0) (hp : p ≤ s.size) (hs : s.size ≤ 600) (hc : cs.length ≤ p) (hn : need s.data.toList .ahead p ≤ n + 1) :
  Calls Tryz.prog 197 #[rp g] w (RPost w0 wa g s (operandD s.data.toList n p cs)) := by
 unfold operandD
 by_cases h40 : nx s.data.toList p = 40
 ·rw [if_pos h40]; exact operand_paren hJ h hO h40 hs hc hn
 ·rw [if_neg h40]
  cases hd : isD (nx s.data.toList p)
  ·rw [if_neg (by decide)]; exact operand_word hJ h hO h40 hd hp hs hc hn
  ·rw [if_pos rfl]; exact operand_num h hd hs hc
theorem ahead_any {s : ByteArray} {n : Nat} (hs : s.size ≤ 600) (hJ : JH s n) (hA : AH s n) : AH s (n + 1) := by
 intro w0 wa w g p cs h hO hp hc hn
 rw [D_ahead]
 by_cases h45 : nx s.data.toList p = 45
 ·rw [if_pos h45]; exact ahead_neg hA h hO h45 hs hc hn
 ·rw [if_neg h45]
  by_cases h33 : nx s.data.toList p = 33
  ·rw [if_pos h33]; exact ahead_not hA h hO h33 hs hc hn
  ·rw [if_neg h33]
   have HX := Lib.hid (next_any h hp)
   have HI : Hid (∀ m, Calls Tryz.prog 197 #[rp g] (w.drewN m) (RPost w0 wa g s (operandD s.data.toList n p cs))) := fun m => operand_any hJ (h.drewN m) hO hp hs hc hn
   change Calls Tryz.prog 174 #[rp g] w (RPost w0 wa g s (operandD s.data.toList n p cs))
   generalize operandD s.data.toList n p cs = R at HI ⊢
   have t45 : (((nx s.data.toList p).toNat : Int) == 45) = false := byte_not (k := 45) (by decide) h45
   have t33 : (((nx s.data.toList p).toNat : Int) == 33) = false := byte_not (k := 33) (by decide) h33
   clear h h45 h33 hJ hA
   unfold rp at *
   go_enter Tryz.func174, Tryz.ntmps174
   go_wp2_with fail
   refine HX.out.mono ?_
   rintro e w1 ⟨rfl, m, rfl⟩
   go_wp2_with fail
   refine (HI.out m).mono ?_
   rintro e w1 ⟨rfl, h1⟩
   have H1 := Lib.hid h1; clear h1
   go_wp2
   go_ret
   exact ⟨rfl, H1.out⟩
end Go.Proofs.YtkjkcgbmaojpiaaGreatDoor
namespace Go.Proofs.YtkjkcgbmaojpiaaGreatDoor
open Go.RowKit
def placeOf (g : Nat) (w : World) : Nat := match w.cell? ⟨g, 1, none⟩ with | some (.int _ q) => q.toNat | _ => 0
theorem St.place {w0 wa w : World} {g : Nat} {s : ByteArray} {p : Nat} {cs : List CM} (h : St w0 wa g s p cs w) : placeOf g w = p := by
 obtain ⟨v, ⟨_, c1, _⟩, _⟩ := h.at_
 unfold placeOf; rw [c1]; simp
structure JL (s : ByteArray) (w0 wa : World) (g k n : Nat) (R : Rs) (m p : Nat) (cs : List CM) (cmp : Bool) (w : World) : Prop where
 res : D s.data.toList m (.loop k cmp) p cs = R
 nd : need s.data.toList (.loop k cmp) p ≤ m
 le : m ≤ n
 pl : p ≤ s.size
 few : cs.length ≤ p
 st : St w0 wa g s p cs w
def JAt (g k : Nat) (b : Bool) (a : Act) : Prop := ∃ u2 u3 u6 u7 u8 u9 u10 u11 u12 u13 u14 u15 u16 u17 u18 u19 u20 u21 u22 u23 u24 u25 u26 u27 u28 u29 u30 u31 u32 u33 u34 u35 u36 u37 u38 u39 u40 u41 u42 u43 u44 u45 u46 u47 u48 u49 u50 u51 : Value,  a = { tmps := #[.pointer (some ⟨g, 0, none⟩), .int .i64 k, u2, u3, .bool false, .bool b, u6, u7, u8, u9, u10, u11, u12, u13, u14, u15, u16, u17, u18, u19, u20, u21, u22, u23, u24, u25, u26, u27, u28, u29, u30, u31, u32, u33, u34, u35, u36, u37, u38, u39, u40, u41, u42, u43, u44, u45, u46, u47, u48, u49, u50, u51], defers := [] }
def JJ (s : ByteArray) (w0 wa : World) (g k n : Nat) (R : Rs) (l : Nat) (a : Act) (w : World) : Prop := l = 0 ∧ ∃ m p cs b, JL s w0 wa g k n R m p cs b w ∧ JAt g k b a
theorem RPost.of {w0 wa w : World} {g : Nat} {s : ByteArray} {b : Bool} {p : Nat} {cs : List CM} {R : Rs} (hR : R = (b, p, cs)) (h : St w0 wa g s p cs w) : RPost w0 wa g s R (.returned (.bool b)) w := by
 subst hR; exact ⟨rfl, h⟩
theorem push_far_drew {w w1 : World} {g b : Nat} {x v : Value} {o : Array Value} (hgrow : (w.alloc (.cells o b)).drew.grownBy w1 v.ownBlock) (hg : g < w.heap.size) (hne : v.ownBlock ≠ some g) (hc : w.cell? ⟨g, 2, none⟩ = some x) (hf : w.frozen? ⟨g, 2, none⟩ = false) :
  w1.cell? ⟨g, 2, none⟩ = some x ∧ w1.frozen? ⟨g, 2, none⟩ = false :=
 ⟨(hgrow.cell_far ⟨g, 2, none⟩ (by simp; omega) (Ne.symm hne)).trans ((World.cell?_alloc_lt w _ _ hg).trans hc), (hgrow.frozen_far ⟨g, 2, none⟩ (by simp; omega) (Ne.symm hne)).trans ((World.frozen?_alloc_past _ g 2 hg).trans hf)⟩
theorem joins_six {s : ByteArray} {n : Nat} (hA : AH s n) {w0 wa w : World} {g p : Nat} {cs : List CM} (h : St w0 wa g s p cs w) (hO : Ops w0) (hp : p ≤ s.size) (hc : cs.length ≤ p) (hn : need s.data.toList (.joins 6) p ≤ n + 1) :
  Calls Tryz.prog 148 #[rp g, .int .i64 6] w (RPost w0 wa g s (D s.data.toList (n + 1) (.joins 6) p cs)) := by
 have HJ := Lib.hid (hA w0 wa _ g p cs h hO hp hc (by simp only [need] at *; omega))
 have hR : D s.data.toList (n + 1) (.joins 6) p cs = D s.data.toList n .ahead p cs := by rw [D_joins, if_pos rfl]
 rw [hR]
 clear hR h hA
 unfold rp at *
 go_enter Tryz.func148, Tryz.ntmps148
 go_wp2
 go_step3
 go_wp2_with fail
 refine HJ.out.mono ?_
 rintro e w1 ⟨rfl, h1⟩
 have H1 := Lib.hid h1; clear h1
 go_wp2
 rw [Exit.noGoto_ret]
 go_ret
 exact ⟨rfl, H1.out⟩
set_option maxRecDepth 100000 in
set_option maxHeartbeats 6000000 in
theorem joins_low {s : ByteArray} {n : Nat} (hs : s.size ≤ 600) (hJs : ∀ m, m ≤ n → JH s m) {w0 wa w : World} {g p k : Nat} {cs : List CM} (h : St w0 wa g s p cs w) (hO : Ops w0) (hk1 : 1 ≤ k) (hk6 : k < 6) (hp : p ≤ s.size) (hc : cs.length ≤ p) (hn : need s.data.toList (.joins k) p ≤ n + 1) :
  Calls Tryz.prog 148 #[rp g, .int .i64 k] w (RPost w0 wa g s (D s.data.toList (n + 1) (.joins k) p cs)) := by
 have hnd : need s.data.toList (.joins (k + 1)) p ≤ n := by simp only [need] at *; omega
 have HJ := Lib.hid (hJs n (Nat.le_refl _) w0 wa _ g p cs (k + 1) h hO (by omega) (by omega) hp hc hnd)
 have hck : ((k + 1 : Nat) : Int) = (k : Int) + 1 := by omega
 rw [hck] at HJ
 clear hck
 have hgo := goes s.data.toList n (.joins (k + 1)) p cs (by rw [sz]; exact hp)
 have hfew := few s.data.toList n (.joins (k + 1)) p cs (by rw [sz]; exact hp) (by simp)
 obtain ⟨R, hR⟩ : ∃ R, D s.data.toList (n + 1) (.joins k) p cs = R := ⟨_, rfl⟩
 rw [hR]
 rw [D_joins, if_neg (by omega)] at hR
 obtain ⟨b1, p1, cs1, hr⟩ : ∃ b p1 cs1, D s.data.toList n (.joins (k + 1)) p cs = (b, p1, cs1) := ⟨_, _, _, rfl⟩
 rw [hr] at HJ hgo hfew hR
 have hp1 : p1 ≤ s.size := by have := hgo.le; rw [sz] at this; exact this
 have hJS := Lib.hid hJs
 have HSZ := Lib.hid (sz s)
 have t6 : ((k : Int) == 6) = false := beq_eq_false_iff_ne.2 (by omega)
 unfold rp at *
 cases b1
 ·have HP : Hid (R = (false, p1, cs1)) := by rw [← hR, if_neg (by simp)]; exact rfl
  clear hR h hr hgo hfew hJs
  go_enter Tryz.func148, Tryz.ntmps148
  go_wp2
  go_step3
  go_wp2_with fail
  refine HJ.out.mono ?_
  rintro e w1 ⟨rfl, h1⟩
  have H1 := Lib.hid h1; clear h1
  go_wp2
  rw [Exit.noGoto_ret]
  go_ret
  exact RPost.of HP.out H1.out
 ·have hR1 : D s.data.toList n (.loop k false) p1 cs1 = R := by rw [← hR, if_pos rfl]
  have hpp : p < p1 := hgo.gt rfl
  have hcc : cs1.length ≤ p1 := by have := hfew rfl; simp only at this; omega
  have hnl : need s.data.toList (.loop k false) p1 ≤ n := by simp only [need, sz] at *; omega
  have HL : Hid (∀ w1, St w0 wa g s p1 cs1 w1 → JL s w0 wa g k n R n p1 cs1 false w1) := fun w1 h1 => ⟨hR1, hnl, Nat.le_refl _, hp1, hcc, h1⟩
  clear hR h hr hgo hfew hJs hR1 hpp hcc hnl
  go_enter Tryz.func148, Tryz.ntmps148
  go_wp2
  refine wp_scope_labels (JJ s w0 wa g k n R) (fun _ _ w' => s.size - placeOf g w') ?_ ?_
  ·rintro l a w' ⟨rfl, m, q, xs, b, hL, u2, u3, u6, u7, u8, u9, u10, u11, u12, u13, u14, u15, u16, u17, u18, u19, u20, u21, u22, u23, u24, u25, u26, u27, u28, u29, u30, u31, u32, u33, u34, u35, u36, u37, u38, u39, u40, u41, u42, u43, u44, u45, u46, u47, u48, u49, u50, u51, rfl⟩
   refine ⟨_, rfl, ?_⟩
   intro H
   clear H
   obtain ⟨hres, hnd2, hmn, hpl, hfw, hst⟩ := hL
   have HOP := Lib.hid (operator_any hst (hO.below (hst.below)) hpl hs)
   have hpo := hst.place
   have HST := Lib.hid hst
   clear hst
   obtain ⟨m, rfl⟩ : ∃ m', m = m' + 1 := ⟨m - 1, by simp only [need] at hnd2; omega⟩
   rw [D_loop] at hres
   have HOF : Hid (∀ h : (opAt s.data.toList q).2.2 ≠ 0, 1 ≤ (opAt s.data.toList q).2.1 ∧ q + (opAt s.data.toList q).2.1 ≤ s.size) := by
    intro h; have := opAt_some h; rw [HSZ.out] at this; exact this
   generalize opAt s.data.toList q = oo at HOP hres HOF
   obtain ⟨oop, ol, ost⟩ := oo
   simp only at HOP hres HOF
   have HRES := Lib.hid hres; have HPO := Lib.hid hpo; have HND := Lib.hid hnd2
   clear hres hpo hnd2
   by_cases hsk : ost = k
   ·subst hsk
    have HOF2 := Lib.hid (HOF.out (by omega))
    have tk : ((ost : Int) != (ost : Int)) = false := by simp
    cases b
    ·have hnd3 : need s.data.toList (.joins (ost + 1)) (q + ol) ≤ m := by
      have h1 := HND.out; have h2 := HOF2.out
      simp only [need, HSZ.out] at *; omega
     have hql : q + ol ≤ s.size := HOF2.out.2
     have hol : 1 ≤ ol := HOF2.out.1
     have hgo2 := goes s.data.toList m (.joins (ost + 1)) (q + ol) xs (by rw [HSZ.out]; exact hql)
     have hfew2 := few s.data.toList m (.joins (ost + 1)) (q + ol) xs (by rw [HSZ.out]; exact hql) (by simp)
     have hRR := HRES.out
     rw [if_neg (by simp), if_neg (by simp)] at hRR
     have HJ2 : Hid (∀ w3, St w0 w3 g s (q + ol) xs w3 → Calls Tryz.prog 148 #[.pointer (some ⟨g, 0, none⟩), .int .i64 ((ost : Int) + 1)] w3 (RPost w0 w3 g s (D s.data.toList m (.joins (ost + 1)) (q + ol) xs))) := by
      intro w3 h3
      have := hJS.out m (by omega) w0 w3 w3 g (q + ol) xs (ost + 1) h3 hO (by omega) (by omega) hql (by omega) hnd3
      rw [show ((ost + 1 : Nat) : Int) = (ost : Int) + 1 by omega] at this
      exact this
     obtain ⟨b2, p2, cs2, hr2⟩ : ∃ b p1 cs1, D s.data.toList m (.joins (ost + 1)) (q + ol) xs = (b, p1, cs1) := ⟨_, _, _, rfl⟩
     rw [hr2] at HJ2 hgo2 hfew2 hRR
     have hp2 : p2 ≤ s.size := by have := hgo2.le; rw [HSZ.out] at this; exact this
     have HRR := Lib.hid hRR; have HGO := Lib.hid hgo2; have HFW := Lib.hid hfew2
     clear hRR hgo2 hfew2 hr2 hnd3
     go_wp2_with fail
     refine HOP.out.mono ?_
     rintro e w2 ⟨X, hX, rfl, hb⟩
     have H2 := HST.out.to_below hb
     have H3 := Lib.hid (H2.alloc (.cells #[.int .i64 oop, .string X, .int .i64 ost] 176))
     have HBX := Lib.hid (heap_alloc_new w2 (.cells #[.int .i64 oop, .string X, .int .i64 ost] 176))
     have hg2 := H2.lt
     clear hb H2
     go_wp2
     generalize hW : w2.alloc (.cells #[.int .i64 oop, .string X, .int .i64 ost] 176) = W at H3 HBX ⊢
     generalize hbo : w2.heap.size = bo at *
     clear hW hbo
     obtain ⟨v, ⟨c0, c1, c2, f1, f2⟩, hbox, hown⟩ := H3.out.at_
     obtain ⟨o0, o1, o2, _, _, _⟩ := three_at HBX.out
     clear hbox hown
     have hqx : (q : Int) + (X.size : Int) = ((q + ol : Nat) : Int) := by rw [hX]; simp
     have HQX := Lib.hid hqx
     have hq6 : IntKind.i64.wrap ((q : Int) + (X.size : Int)) = (q : Int) + (X.size : Int) := IntWalk.i64_in _ (by omega)
     clear hqx
     have HX2 := Lib.hid hX; clear hX
     refine wp_region_tail 8 (by kernel_rfl) (by kernel_rfl) ?_
     simp only [List.take_succ_cons, List.take_zero, List.drop_succ_cons, List.drop_zero]
     repeat still_step
     refine wpStill_nil ?_
     clear hq6
     have HC : Hid (St w0 W g s (q + ol) xs (W.drew.setCell ⟨g, 1, none⟩ (.int .i64 ((q : Int) + (X.size : Int))))) := H3.out.here.drew.setAt _ HQX.out
     have HL2 : Hid (∀ w4, St w0 W g s p2 cs2 w4 → b2 = true → ∀ w5, St w0 wa g s p2 (cs2 ++ [opC oop]) w5 → JL s w0 wa g ost n R m p2 (cs2 ++ [opC oop]) ((ost : Int) == 3) w5) := by
      intro w4 _ hb2 w5 h5
      subst hb2
      have h1 := HRR.out
      rw [if_pos rfl] at h1
      have e3 : (ost == 3) = ((ost : Int) == 3) := by
       by_cases h : ost = 3
       ·subst h; rfl
       ·rw [beq_eq_false_iff_ne.2 h, beq_eq_false_iff_ne.2 (by omega)]
      rw [← e3]
      have h2 := HFW.out rfl
      have h3 := HGO.out.ge
      simp only at h2 h3
      refine ⟨h1, ?_, by omega, hp2, by simp; omega, h5⟩
      have h4 := HND.out
      simp only [need, HSZ.out] at *; omega
     have HPL : Hid (s.size - p2 < s.size - q) := by
      have h3 := HGO.out.ge
      show _ < _
      simp only at h3; omega
     have hcs2 : b2 = true → cs2.length ≤ 600 := by
      intro hb2; subst hb2
      have h2 := HFW.out rfl
      simp only at h2; omega
     have HCS := Lib.hid hcs2; clear hcs2
     go_wp2_with fail
     refine (HJ2.out _ HC.out.here).mono ?_
     rintro e w4 ⟨rfl, h4⟩
     have H4 := Lib.hid (h4.re HC.out.keep)
     have hbg : bo ≠ g := by omega
     have hbl := lt_of_block HBX.out
     have HBX4 : Hid (w4.heap[bo]? = some (.cells #[.int .i64 oop, .string X, .int .i64 ost] 176 (0, 0))) := by
      have := H4.out.keep.same bo hbl hbg (by
       intro cs fr e
       rw [HBX.out] at e
       have e := Option.some.inj e
       simp at e)
      exact this.trans HBX.out
     clear h4 c0 c1 c2 f1 f2 o0 o1 o2 HC
     have HRRR := HRR
     cases b2
     ·have HP : Hid (R = (false, p2, cs2)) := by
       have h1 := HRR.out
       rw [if_neg (by simp)] at h1
       exact h1.symm
      go_wp2
      go_ret
      exact RPost.of HP.out (H4.out.re H3.out.keep)
     ·obtain ⟨v4, ⟨c0, c1, c2, f1, f2⟩, hbox4, hown4⟩ := H4.out.at_
      obtain ⟨o0, o1, o2, _, _, _⟩ := three_at HBX4.out
      have HB4 := Lib.hid hbox4; have HOWN := Lib.hid hown4; have HNE := Lib.hid (own_ne hown4 hbox4)
      have hgl := H4.out.lt
      have hWs := H4.out.size
      have hcs2 := HCS.out rfl
      clear hbox4 hown4
      obtain ⟨i0, hi0, hz0, hz1, hz2⟩ := info_parts Tryz.infoCell
      have HI := Lib.hid hi0; have HZ0 := Lib.hid hz0; have HZ1 := Lib.hid hz1; have HZ2 := Lib.hid hz2
      clear hi0 hz0 hz1 hz2
      go_wp2
      go_region_law ((refine step_append_lies _ (by rfl) _ _ _ (by rfl) w0.heap.size 144 i0 _ 3 32 Tryz.underlying40 HI.out HZ0.out HZ1.out HZ2.out rfl (by omega) v4 cs2.length (flat cs2) (by rfl) ((HOWN.out.alloc _).drew) ⟨w4.heap.size, 0, none⟩ 1 1 (cellV (opC oop)) (by rfl) (by rfl) (World.news_of_block (cs := #[.int .i64 oop, .int .i64 0, .string ⟨#[]⟩]) (t := 144) (fr := (0, 0)) (heap_alloc_new w4 _)) (one_vals (opC oop)) (by omega) (by unfold maxLen; omega) (by omega) (by simp; omega) (w4.heap.size + 1) (by simp) ?_; intro gg cap w5 hown1 hgrow hat hlt; obtain ⟨k2, kf2⟩ := push_far_drew hgrow hgl HNE.out c2 f2))
      all_goals
       have HH : Hid (St w0 W g s p2 (cs2 ++ [opC oop]) (w5.setCell ⟨g, 2, none⟩ (.slice (some ⟨gg, 0, none⟩) (cs2.length + 1) cap))) := by
        refine H4.out.push HB4.out HOWN.out (w1 := (w4.alloc (.cells #[.int .i64 oop, .int .i64 0, .string ⟨#[]⟩] 144)).drew) ((Below.refl _ _).alloc (Nat.le_refl _) _).drew ?_ hgrow
        rw [flat_append, flat_one, List.length_append]
        exact hown1
       have HJL := Lib.hid (HL2.out _ H4.out (by simp) _ (HH.out.re H3.out.keep))
       have HPL2 := Lib.hid HH.out.place
       clear hown1 hgrow hat hlt k2 kf2 HH
       go_wp2
       go_step3
       refine ⟨⟨rfl, m, p2, _, _, HJL.out, _, _, _, _, _, _, _, _, _, _, _, _, _, _, _, _, _, _, _, _, _, _, _, _, _, _, _, _, _, _, _, _, _, _, _, _, _, _, _, _, _, _, _, _, _, _, _, _, rfl⟩, ?_⟩
       rw [HPL2.out, HPO.out]
       exact HPL.out
    ·have HP : Hid (R = (false, q, xs)) := by
      have := HRES.out
      rw [if_neg (by simp), if_pos rfl] at this
      exact this.symm
     go_wp2_with fail
     refine HOP.out.mono ?_
     rintro e w2 ⟨X, hX, rfl, hb⟩
     have H2 := Lib.hid (HST.out.to_below hb); clear hb
     go_wp2
     go_ret
     exact RPost.of HP.out (H2.out.alloc _)
   ·have tk : ((ost : Int) != (k : Int)) = true := bne_iff_ne.2 (by omega)
    have HP : Hid (R = (true, q, xs)) := by
     have := HRES.out
     rw [if_pos hsk] at this
     exact this.symm
    clear hsk
    go_wp2_with fail
    refine HOP.out.mono ?_
    rintro e w2 ⟨X, hX, rfl, hb⟩
    have H2 := Lib.hid (HST.out.to_below hb); clear hb
    go_wp2
    go_ret
    exact RPost.of HP.out (H2.out.alloc _)
  ·intro H
   have HH := Lib.hid H; clear H
   go_wp2_with fail
   refine HJ.out.mono ?_
   rintro e w1 ⟨rfl, h1⟩
   have H1 := Lib.hid h1; clear h1
   go_wp2
   go_step3
   exact walk_on (by assumption) (HH.out 0 _ _ _ rfl ⟨rfl, n, p1, cs1, false, HL.out _ H1.out, _, _, _, _, _, _, _, _, _, _, _, _, _, _, _, _, _, _, _, _, _, _, _, _, _, _, _, _, _, _, _, _, _, _, _, _, _, _, _, _, _, _, _, _, _, _, _, _, rfl⟩)
theorem reads (s : ByteArray) (hs : s.size ≤ 600) : ∀ n, JH s n ∧ AH s n := by
 intro n
 induction n using Nat.strongRecOn with
 | _ n ih =>
  cases n with
  | zero =>
   refine ⟨?_, ?_⟩
   ·intro w0 wa w g p cs k _ _ h1 h6 _ _ hn
    simp only [need] at hn; omega
   ·intro w0 wa w g p cs _ _ _ _ hn
    simp only [need] at hn; omega
  | succ n =>
   have hA := ahead_any hs (ih n (by omega)).1 (ih n (by omega)).2
   refine ⟨?_, hA⟩
   intro w0 wa w g p cs k h hO h1 h6 hp hc hn
   by_cases hk : k = 6
   ·subst hk; exact joins_six (ih n (by omega)).2 h hO hp hc hn
   ·exact joins_low hs (fun m hm => (ih m (by omega)).1) h hO h1 (by omega) hp hc hn
end Go.Proofs.YtkjkcgbmaojpiaaGreatDoor
