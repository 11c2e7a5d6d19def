/- The reader's call operand, given joins. -/
import Derived.Test.YtfgocdeaanalgaaDoorEj
namespace Go.Proofs.YtfgocdeaanalgaaDoor
open Go.RowKit

def operandD (s : List UInt8) (n p : Nat) (cs : List CM) : Rs :=
  if nx s p = 40 then closeD s (D s n (.joins 1) (p + 1) cs) else if isD (nx s p) = true then numD s p cs else wordD s p cs (wordP s p) (D s n (.joins 1) (p + 3) cs)

theorem operand_paren {s : ByteArray} {n : Nat} (hJ : JH s n) {w0 wa w : World} {g p : Nat} {cs : List CM} (h : St w0 wa g s p cs w) (hO : Ops w0) (h40 : nx s.data.toList p = 40) (hs : s.size ≤ 600) (hc : cs.length ≤ p) (hn : need s.data.toList .ahead p ≤ n + 1) :
    Calls Tryd.prog 48 #[rp g] w (RPost w0 wa g s (closeD s.data.toList (D s.data.toList n (.joins 1) (p + 1) cs))) := by
  have hlt := nx_lt (s := s.data.toList) (p := p) (by rw [h40]; decide)
  have hnd : need s.data.toList (.joins 1) (p + 1) ≤ n := by simp only [need] at *; omega
  rw [sz] at hlt
  have HX := Lib.hid (next_any h (by omega))
  have HI : Hid (∀ m, Calls Tryd.prog 54 #[rp g] (w.drewN m) (RPost w0 wa g s (closeD s.data.toList (D s.data.toList n (.joins 1) (p + 1) cs)))) := fun m => inside_any hJ (h.drewN m) hO hlt hs hc hnd
  have t40 : ((nx s.data.toList p).toNat : Int) = 40 := by rw [h40]; rfl
  have HT := Lib.hid t40
  clear h t40 h40 hJ
  unfold rp at *
  go_enter Tryd.func48, Tryd.ntmps48
  go_wp2_with fail
  refine HX.out.mono ?_
  rintro e w1 ⟨rfl, m, rfl⟩
  rw [HT.out]
  go_wp2_with fail
  refine (HI.out m).mono ?_
  rintro e w2 ⟨rfl, h2⟩
  have H2 := Lib.hid h2; clear h2
  go_wp2
  go_ret
  exact ⟨rfl, H2.out⟩

theorem operand_num {s : ByteArray} {w0 wa w : World} {g p : Nat} {cs : List CM} (h : St w0 wa g s p cs w) (hd : isD (nx s.data.toList p) = true) (hs : s.size ≤ 600) (hc : cs.length ≤ p) :
    Calls Tryd.prog 48 #[rp g] w (RPost w0 wa g s (numD s.data.toList p cs)) := by
  have hlt := nx_lt (s := s.data.toList) (p := p) (by intro e; rw [e] at hd; exact absurd hd (by decide))
  rw [sz] at hlt
  have HX := Lib.hid (next_any h (by omega))
  have HI : Hid (∀ m, Calls Tryd.prog 56 #[rp g] (w.drewN m) (RPost w0 wa g s (numD s.data.toList p cs))) := fun m => number_walk (h.drewN m) hlt hd hs (by omega)
  have t40 : (((nx s.data.toList p).toNat : Int) == 40) = false := byte_not (k := 40) (by decide) (fun e => by rw [e] at hd; exact absurd hd (by decide))
  have HD := Lib.hid hd
  clear h hd
  unfold rp at *
  go_enter Tryd.func48, Tryd.ntmps48
  go_wp2_with fail
  refine HX.out.mono ?_
  rintro e w1 ⟨rfl, m, rfl⟩
  go_wp2_with fail
  refine (exDigit_any _ _).mono ?_
  rintro e w1 ⟨rfl, rfl⟩
  rw [HD.out]
  go_wp2_with fail
  refine (HI.out m).mono ?_
  rintro e w2 ⟨rfl, h2⟩
  have H2 := Lib.hid h2; clear h2
  go_wp2
  go_ret
  exact ⟨rfl, H2.out⟩

theorem is_list {X : ByteArray} {l : List UInt8} : (X.toList == l) = decide (X.data.toList = l) := by
  rw [Lib.toList_data]
  by_cases h : X.data.toList = l
  · simp [h]
  · rw [decide_eq_false h]; exact beq_eq_false_iff_ne.2 h

set_option maxRecDepth 100000 in
set_option maxHeartbeats 4000000 in
theorem operand_word {s : ByteArray} {n : Nat} (hJ : JH s n) {w0 wa w : World} {g p : Nat} {cs : List CM} (h : St w0 wa g s p cs w) (hO : Ops w0) (h40 : nx s.data.toList p ≠ 40) (hd : isD (nx s.data.toList p) = false) (hp : p ≤ s.size) (hs : s.size ≤ 600) (hc : cs.length ≤ p) (hn : need s.data.toList .ahead p ≤ n + 1) :
    Calls Tryd.prog 48 #[rp g] w (RPost w0 wa g s (wordD s.data.toList p cs (wordP s.data.toList p) (D s.data.toList n (.joins 1) (p + 3) cs))) := by
  have HX := Lib.hid (next_any h hp)
  have HWD : Hid (∀ m, Calls Tryd.prog 57 #[rp g] (w.drewN m) fun e w' => e = .returned (bstr (wordP s.data.toList p)) ∧ ∃ n, w' = (w.drewN m).drewN n) := fun m => word_any (h.drewN m) hp hs
  have hwl := word_len s p hp
  obtain ⟨X, hX⟩ : ∃ X : ByteArray, X = ⟨(wordP s.data.toList p).toArray⟩ := ⟨_, rfl⟩
  have hXl : X.data.toList = wordP s.data.toList p := by rw [hX]
  have hXz : (wordP s.data.toList p).length = X.size := by rw [← sz X, hXl]
  have hXs : p + X.size ≤ s.size := by rw [← hXz]; exact hwl
  have HXV : Hid (bstr (wordP s.data.toList p) = .string X) := by rw [hX]; rfl
  obtain ⟨R, hR⟩ : ∃ R, wordD s.data.toList p cs (wordP s.data.toList p) (D s.data.toList n (.joins 1) (p + 3) cs) = R := ⟨_, rfl⟩
  have hRX : R = if X.data.toList = [116, 114, 117, 101] then (true, p + 4, cs ++ [opC 3]) else if X.data.toList = [102, 97, 108, 115, 101] then (true, p + 5, cs ++ [opC 4])
      else if nameB X.data.toList = true then (true, p + X.size, cs ++ [⟨5, 0, X.data.toList⟩]) else if nx s.data.toList (p + X.size) ≠ 40 then (false, p, cs)
      else if X.data.toList = [105, 110] then stateD s.data.toList p cs else if X.data.toList = [114, 101] then addD 9 (closeD s.data.toList (D s.data.toList n (.joins 1) (p + 3) cs))
      else if X.data.toList = [105, 109] then addD 10 (closeD s.data.toList (D s.data.toList n (.joins 1) (p + 3) cs)) else (false, p, cs) := by
    rw [← hR, hXl, ← hXz]; rfl
  rw [hR]
  have HRX := Lib.hid hRX
  have HST := Lib.hid h
  have t40 : (((nx s.data.toList p).toNat : Int) == 40) = false := byte_not (k := 40) (by decide) h40
  have HD := Lib.hid hd
  have HJ := Lib.hid hJ
  have hgl := h.lt
  obtain ⟨v, ⟨c0, c1, c2, f1, f2⟩, hbox, hown⟩ := h.at_
  have hq0 : (0 : Int) ≤ (p : Int) + (X.size : Int) := by omega
  have hq1 : (p : Int) + (X.size : Int) ≤ s.size := by omega
  have hq6 : IntKind.i64.wrap ((p : Int) + (X.size : Int)) = (p : Int) + (X.size : Int) := IntWalk.i64_in _ (by omega)
  have hq7 : ((p : Int) + (X.size : Int)).toNat = p + X.size := by omega
  have HQ := Lib.hid (And.intro hq0 (And.intro hq1 (And.intro hq6 hq7)))
  clear hbox hown hX hXl hXz hwl h h40 hd hJ hR hRX hq0 hq1 hq6 hq7
  have hl : ∀ l : List UInt8, (X.toList == l) = decide (X.data.toList = l) := fun l => is_list
  cases b1 : X.toList == [116, 114, 117, 101]
  · cases b2 : X.toList == [102, 97, 108, 115, 101]
    · cases hnm : nameB X.data.toList
      · have HNM := Lib.hid hnm
        by_cases h4 : nx s.data.toList (p + X.size) = 40
        · have hp3 := nx_lt (s := s.data.toList) (p := p + X.size) (by rw [h4]; decide)
          rw [sz] at hp3
          have HH4 : Hid ((nx s.data.toList (p + X.size) == 40) = true) := by rw [h4]; rfl
          cases b3 : X.toList == [105, 110]
          · cases b4 : X.toList == [114, 101]
            · cases b5 : X.toList == [105, 109]
              · have HRR : Hid (R = (false, p, cs)) := by
                  have e1 := b1; have e2 := b2; have e3 := b3; have e4 := b4; have e5 := b5
                  rw [hl, decide_eq_false_iff_not] at e1 e2 e3 e4 e5
                  rw [HRX.out, if_neg e1, if_neg e2, hnm, if_neg (by decide), if_neg (by simp [h4]), if_neg e3, if_neg e4, if_neg e5]; exact rfl
                clear HRX hl hnm h4
                unfold rp at *
                go_enter Tryd.func48, Tryd.ntmps48
                go_wp2_with fail
                refine HX.out.mono ?_
                rintro e w1 ⟨rfl, m, rfl⟩
                go_wp2_with fail
                refine (exDigit_any _ _).mono ?_
                rintro e w1 ⟨rfl, rfl⟩
                rw [HD.out]
                go_wp2_with fail
                refine (HWD.out m).mono ?_
                rintro e w1 ⟨rfl, m2, rfl⟩
                rw [HXV.out]
                go_wp2_with fail
                refine (name_any X _).mono ?_
                rintro e w1 ⟨rfl, rfl⟩
                rw [HNM.out]
                go_wp2_with fail
                obtain ⟨hq0, hq1, hq6, hq7⟩ := HQ.out
                go_quiet ((go_at_call 49; first | exact quiet_at (prefix_at s 40 (p + X.size) (by decide) hXs _) | exact quiet_on (prefix_at s 40 (p + X.size) (by decide) hXs _)))
                clear hq0 hq1 hq6 hq7
                rw [HH4.out]
                go_wp2
                go_ret
                rw [HRR.out]
                exact ⟨rfl, by first | exact HST.out.drewN _ | exact (HST.out.drewN _).drewN _⟩
              · have e5 := b5
                rw [hl, decide_eq_true_iff] at e5
                have hx2 : X.size = 2 := by rw [← sz X, e5]; rfl
                have hnd : need s.data.toList (.joins 1) (p + 3) ≤ n := by simp only [need, sz] at *; omega
                have HRR : Hid (R = addD 10 (closeD s.data.toList (D s.data.toList n (.joins 1) (p + 3) cs))) := by
                  have e1 := b1; have e2 := b2; have e3 := b3; have e4 := b4
                  rw [hl, decide_eq_false_iff_not] at e1 e2 e3 e4
                  rw [HRX.out, if_neg e1, if_neg e2, hnm, if_neg (by decide), if_neg (by simp [h4]), if_neg e3, if_neg e4, if_pos e5]; exact rfl
                have HC : Hid (∀ W, St w0 wa g s p cs W → Calls Tryd.prog 60 #[rp g, .string X, .int .i64 10] W (RPost w0 wa g s R)) := by
                  intro W hW
                  rw [HRR.out]
                  exact part_any HJ.out hW hO X 10 hx2 (by omega) hs hc hnd
                clear HRX hl hnm h4 e5 hx2 hnd HRR HJ
                unfold rp at *
                go_enter Tryd.func48, Tryd.ntmps48
                go_wp2_with fail
                refine HX.out.mono ?_
                rintro e w1 ⟨rfl, m, rfl⟩
                go_wp2_with fail
                refine (exDigit_any _ _).mono ?_
                rintro e w1 ⟨rfl, rfl⟩
                rw [HD.out]
                go_wp2_with fail
                refine (HWD.out m).mono ?_
                rintro e w1 ⟨rfl, m2, rfl⟩
                rw [HXV.out]
                go_wp2_with fail
                refine (name_any X _).mono ?_
                rintro e w1 ⟨rfl, rfl⟩
                rw [HNM.out]
                go_wp2_with fail
                obtain ⟨hq0, hq1, hq6, hq7⟩ := HQ.out
                go_quiet ((go_at_call 49; first | exact quiet_at (prefix_at s 40 (p + X.size) (by decide) hXs _) | exact quiet_on (prefix_at s 40 (p + X.size) (by decide) hXs _)))
                clear hq0 hq1 hq6 hq7
                rw [HH4.out]
                go_wp2_with fail
                refine (HC.out _ (by first | exact HST.out.drewN _ | exact (HST.out.drewN _).drewN _)).mono ?_
                rintro e w2 ⟨rfl, h2⟩
                have H2 := Lib.hid h2; clear h2
                go_wp2
                go_ret
                exact ⟨rfl, H2.out⟩
            · have e4 := b4
              rw [hl, decide_eq_true_iff] at e4
              have hx2 : X.size = 2 := by rw [← sz X, e4]; rfl
              have hnd : need s.data.toList (.joins 1) (p + 3) ≤ n := by simp only [need, sz] at *; omega
              have HRR : Hid (R = addD 9 (closeD s.data.toList (D s.data.toList n (.joins 1) (p + 3) cs))) := by
                have e1 := b1; have e2 := b2; have e3 := b3
                rw [hl, decide_eq_false_iff_not] at e1 e2 e3
                rw [HRX.out, if_neg e1, if_neg e2, hnm, if_neg (by decide), if_neg (by simp [h4]), if_neg e3, if_pos e4]; exact rfl
              have HC : Hid (∀ W, St w0 wa g s p cs W → Calls Tryd.prog 60 #[rp g, .string X, .int .i64 9] W (RPost w0 wa g s R)) := by
                intro W hW
                rw [HRR.out]
                exact part_any HJ.out hW hO X 9 hx2 (by omega) hs hc hnd
              clear HRX hl hnm h4 e4 hx2 hnd HRR HJ
              unfold rp at *
              go_enter Tryd.func48, Tryd.ntmps48
              go_wp2_with fail
              refine HX.out.mono ?_
              rintro e w1 ⟨rfl, m, rfl⟩
              go_wp2_with fail
              refine (exDigit_any _ _).mono ?_
              rintro e w1 ⟨rfl, rfl⟩
              rw [HD.out]
              go_wp2_with fail
              refine (HWD.out m).mono ?_
              rintro e w1 ⟨rfl, m2, rfl⟩
              rw [HXV.out]
              go_wp2_with fail
              refine (name_any X _).mono ?_
              rintro e w1 ⟨rfl, rfl⟩
              rw [HNM.out]
              go_wp2_with fail
              obtain ⟨hq0, hq1, hq6, hq7⟩ := HQ.out
              go_quiet ((go_at_call 49; first | exact quiet_at (prefix_at s 40 (p + X.size) (by decide) hXs _) | exact quiet_on (prefix_at s 40 (p + X.size) (by decide) hXs _)))
              clear hq0 hq1 hq6 hq7
              rw [HH4.out]
              go_wp2_with fail
              refine (HC.out _ (by first | exact HST.out.drewN _ | exact (HST.out.drewN _).drewN _)).mono ?_
              rintro e w2 ⟨rfl, h2⟩
              have H2 := Lib.hid h2; clear h2
              go_wp2
              go_ret
              exact ⟨rfl, H2.out⟩
          · have e3 := b3
            rw [hl, decide_eq_true_iff] at e3
            have hx2 : X.size = 2 := by rw [← sz X, e3]; rfl
            have HRR : Hid (R = stateD s.data.toList p cs) := by
              have e1 := b1; have e2 := b2
              rw [hl, decide_eq_false_iff_not] at e1 e2
              rw [HRX.out, if_neg e1, if_neg e2, hnm, if_neg (by decide), if_neg (by simp [h4]), if_pos e3]; exact rfl
            have HC : Hid (∀ W, St w0 wa g s p cs W → Calls Tryd.prog 59 #[rp g] W (RPost w0 wa g s R)) := by
              intro W hW
              rw [HRR.out]
              exact state_any hW (by omega) hs (by omega)
            clear HRX hl hnm h4 e3 hx2 HRR HJ
            unfold rp at *
            go_enter Tryd.func48, Tryd.ntmps48
            go_wp2_with fail
            refine HX.out.mono ?_
            rintro e w1 ⟨rfl, m, rfl⟩
            go_wp2_with fail
            refine (exDigit_any _ _).mono ?_
            rintro e w1 ⟨rfl, rfl⟩
            rw [HD.out]
            go_wp2_with fail
            refine (HWD.out m).mono ?_
            rintro e w1 ⟨rfl, m2, rfl⟩
            rw [HXV.out]
            go_wp2_with fail
            refine (name_any X _).mono ?_
            rintro e w1 ⟨rfl, rfl⟩
            rw [HNM.out]
            go_wp2_with fail
            obtain ⟨hq0, hq1, hq6, hq7⟩ := HQ.out
            go_quiet ((go_at_call 49; first | exact quiet_at (prefix_at s 40 (p + X.size) (by decide) hXs _) | exact quiet_on (prefix_at s 40 (p + X.size) (by decide) hXs _)))
            clear hq0 hq1 hq6 hq7
            rw [HH4.out]
            go_wp2_with fail
            refine (HC.out _ (by first | exact HST.out.drewN _ | exact (HST.out.drewN _).drewN _)).mono ?_
            rintro e w2 ⟨rfl, h2⟩
            have H2 := Lib.hid h2; clear h2
            go_wp2
            go_ret
            exact ⟨rfl, H2.out⟩
        · have HH4 : Hid ((nx s.data.toList (p + X.size) == 40) = false) := beq_eq_false_iff_ne.2 h4
          have HRR : Hid (R = (false, p, cs)) := by
            have e1 := b1; have e2 := b2
            rw [hl, decide_eq_false_iff_not] at e1 e2
            rw [HRX.out, if_neg e1, if_neg e2, hnm, if_neg (by decide), if_pos h4]; exact rfl
          clear HRX hl hnm h4
          unfold rp at *
          go_enter Tryd.func48, Tryd.ntmps48
          go_wp2_with fail
          refine HX.out.mono ?_
          rintro e w1 ⟨rfl, m, rfl⟩
          go_wp2_with fail
          refine (exDigit_any _ _).mono ?_
          rintro e w1 ⟨rfl, rfl⟩
          rw [HD.out]
          go_wp2_with fail
          refine (HWD.out m).mono ?_
          rintro e w1 ⟨rfl, m2, rfl⟩
          rw [HXV.out]
          go_wp2_with fail
          refine (name_any X _).mono ?_
          rintro e w1 ⟨rfl, rfl⟩
          rw [HNM.out]
          go_wp2_with fail
          obtain ⟨hq0, hq1, hq6, hq7⟩ := HQ.out
          go_quiet ((go_at_call 49; first | exact quiet_at (prefix_at s 40 (p + X.size) (by decide) hXs _) | exact quiet_on (prefix_at s 40 (p + X.size) (by decide) hXs _)))
          clear hq0 hq1 hq6 hq7
          rw [HH4.out]
          go_wp2
          go_ret
          rw [HRR.out]
          exact ⟨rfl, by first | exact HST.out.drewN _ | exact (HST.out.drewN _).drewN _⟩
      · have HNM := Lib.hid hnm
        have HRR : Hid (R = (true, p + X.size, cs ++ [⟨5, 0, X.data.toList⟩])) := by
          have e1 := b1; have e2 := b2
          rw [hl, decide_eq_false_iff_not] at e1 e2
          rw [HRX.out, if_neg e1, if_neg e2, if_pos hnm]; exact rfl
        clear HRX hl hnm
        unfold rp at *
        go_enter Tryd.func48, Tryd.ntmps48
        go_wp2_with fail
        refine HX.out.mono ?_
        rintro e w1 ⟨rfl, m, rfl⟩
        go_wp2_with fail
        refine (exDigit_any _ _).mono ?_
        rintro e w1 ⟨rfl, rfl⟩
        rw [HD.out]
        go_wp2_with fail
        refine (HWD.out m).mono ?_
        rintro e w1 ⟨rfl, m2, rfl⟩
        rw [HXV.out]
        go_wp2_with fail
        refine (name_any X _).mono ?_
        rintro e w1 ⟨rfl, rfl⟩
        rw [HNM.out]
        go_wp2_with fail
        refine (clone_any X _ (by omega)).mono ?_
        rintro e w1 ⟨rfl, hb⟩
        have H1 : Hid (St w0 wa g s p cs w1) := by first | exact (HST.out.drewN _).to_below hb | exact ((HST.out.drewN _).drewN _).to_below hb
        clear hb
        go_wp2_with fail
        refine (take_any H1.out X ⟨5, 0, X.data.toList⟩ hXs hs (by omega)).mono ?_
        rintro e w2 ⟨rfl, h2⟩
        have H2 := Lib.hid h2; clear h2
        go_wp2
        go_ret
        rw [HRR.out]
        exact ⟨rfl, H2.out⟩
    · have e2 := b2
      rw [hl, decide_eq_true_iff] at e2
      have hx5 : X.size = 5 := by rw [← sz X, e2]; rfl
      have HRR : Hid (R = (true, p + X.size, cs ++ [opC 4])) := by
        have e1 := b1
        rw [hl, decide_eq_false_iff_not] at e1
        rw [HRX.out, if_neg e1, if_pos e2, hx5]; exact rfl
      clear HRX hl e2 hx5
      unfold rp at *
      go_enter Tryd.func48, Tryd.ntmps48
      go_wp2_with fail
      refine HX.out.mono ?_
      rintro e w1 ⟨rfl, m, rfl⟩
      go_wp2_with fail
      refine (exDigit_any _ _).mono ?_
      rintro e w1 ⟨rfl, rfl⟩
      rw [HD.out]
      go_wp2_with fail
      refine (HWD.out m).mono ?_
      rintro e w1 ⟨rfl, m2, rfl⟩
      rw [HXV.out]
      go_wp2_with fail
      refine (take_any (by first | exact HST.out.drewN _ | exact (HST.out.drewN _).drewN _) X (opC 4) hXs hs (by omega)).mono ?_
      rintro e w2 ⟨rfl, h2⟩
      have H2 := Lib.hid h2; clear h2
      go_wp2
      go_ret
      rw [HRR.out]
      exact ⟨rfl, H2.out⟩
  · have e1 := b1
    rw [hl, decide_eq_true_iff] at e1
    have hx4 : X.size = 4 := by rw [← sz X, e1]; rfl
    have HRR : Hid (R = (true, p + X.size, cs ++ [opC 3])) := by rw [HRX.out, if_pos e1, hx4]; exact rfl
    clear HRX hl e1 hx4
    unfold rp at *
    go_enter Tryd.func48, Tryd.ntmps48
    go_wp2_with fail
    refine HX.out.mono ?_
    rintro e w1 ⟨rfl, m, rfl⟩
    go_wp2_with fail
    refine (exDigit_any _ _).mono ?_
    rintro e w1 ⟨rfl, rfl⟩
    rw [HD.out]
    go_wp2_with fail
    refine (HWD.out m).mono ?_
    rintro e w1 ⟨rfl, m2, rfl⟩
    rw [HXV.out]
    go_wp2_with fail
    refine (take_any (by first | exact HST.out.drewN _ | exact (HST.out.drewN _).drewN _) X (opC 3) hXs hs (by omega)).mono ?_
    rintro e w2 ⟨rfl, h2⟩
    have H2 := Lib.hid h2; clear h2
    go_wp2
    go_ret
    rw [HRR.out]
    exact ⟨rfl, H2.out⟩
end Go.Proofs.YtfgocdeaanalgaaDoor
