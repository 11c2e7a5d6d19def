/- Own texts, joined: HB. -/
import Derived.Test.YtjgfkmakfdepcaaGreatDoorP27
namespace Go.Proofs.YtjgfkmakfdepcaaGreatDoor

section
open Go.RowKit

set_option maxRecDepth 100000 in
set_option maxHeartbeats 8000000 in
theorem operand_in {w0 w : World} {g : Nat} {s : ByteArray} {p : Nat} {cs : List CM} {ws : List Wt} (h : MS w0 g s p cs ws w) (hp : p < s.size) (hs : s.size ≤ 600) (hb : cs.length + ws.length ≤ 600) (n45 : nx s.data.toList p ≠ 45) (n33 : nx s.data.toList p ≠ 33) (n40 : nx s.data.toList p ≠ 40) (ndd : isD (nx s.data.toList p) = false) (hW : wordP s.data.toList p = wIn) :
    Calls Tryz.prog 90 #[rp g] w (OPost w0 g s (operM s.data.toList p cs ws)) := by
  have HM0 := Lib.hid h
  obtain ⟨X, hX⟩ : ∃ X : ByteArray, X.data.toList = wordP s.data.toList p := ⟨⟨(wordP s.data.toList p).toArray⟩, rfl⟩
  have hXb : bstr (wordP s.data.toList p) = .string X := by rw [← hX]; rfl
  have hXl : p + X.size ≤ s.size := by
    have := word_le s.data.toList p (by rw [← Lib.size_eq]; omega)
    rw [← hX, ← Lib.size_eq, ← Lib.size_eq] at this; exact this
  have HXB := Lib.hid hXb; have HX := Lib.hid hX
  obtain ⟨c, hc⟩ : ∃ c, nx s.data.toList p = c := ⟨_, rfl⟩
  have hsp : s[p] = c := by rw [← lst_at s p hp, hc]
  have HC := Lib.hid hc; have HSP := Lib.hid hsp
  have hne : ((p : Int) == (s.size : Int)) = false := beq_eq_false_iff_ne.2 (by omega)
  obtain ⟨cb, hcb⟩ : ∃ cb : Bool, (nx s.data.toList (p + X.size) == 40) = cb := ⟨_, rfl⟩
  have HCB := Lib.hid hcb
  have hways : (∃ hlt : p + X.size < s.size, ((s[p + X.size].toNat : Int) == 40) = cb) ∨ (decide ((p : Int) + (X.size : Int) < s.size) = false ∧ cb = false) := by
    by_cases hlt : p + X.size < s.size
    · refine Or.inl ⟨hlt, ?_⟩
      rw [← hcb, ← lst_at s _ hlt]
      cases hq : nx s.data.toList (p + X.size) == 40
      · exact byte_not (k := 40) (by decide) (beq_eq_false_iff_ne.1 hq)
      · exact byte_is (k := 40) (by decide) (beq_iff_eq.1 hq)
    · refine Or.inr ⟨decide_eq_false (by omega), ?_⟩
      rw [← hcb, nx_end (by rw [← Lib.size_eq]; omega)]; rfl
  obtain ⟨vo, vw, ⟨c0, c1, c2, c3, f1, f2, f3⟩, hbox, ho, hw⟩ := h.at_
  clear hbox ho hw h hX hXb hc hsp hcb
  unfold rp
  go_enter Tryz.func90, Tryz.ntmps90
  go_wp2
  go_quiet (fail)
  go_wp2
  go_quiet (fail)
  rw [HSP.out]
  go_wp2_with fail
  refine (refWord_any (by first | exact HM0.out.drewN _ | exact (HM0.out.drewN _).drewN _) p (by omega) hs).mono ?_
  rintro e w1 ⟨rfl, rfl⟩
  rw [HXB.out]
  go_wp2
  go_cut [6] from 37 (fun s6 wc => s6 = .bool cb ∧ Hid (MS w0 g s p cs ws wc))
  case first =>
    rcases hways with ⟨hlt, ht⟩ | ⟨ht, rfl⟩
    · have hlt' : (p : Int) + (X.size : Int) < s.size := by omega
      have hi0 : (0 : Int) ≤ (p : Int) + (X.size : Int) := by omega
      have hwr : IntKind.i64.wrap ((p : Int) + (X.size : Int)) = (p : Int) + (X.size : Int) := IntWalk.i64_in _ (by omega)
      have hnat : ((p : Int) + (X.size : Int)).toNat = p + X.size := by omega
      go_quiet (fail)
      go_wp2
      go_meet
      case rel => exact ⟨rfl, by first | exact HM0.out.drewN _ | exact (HM0.out.drewN _).drewN _ | exact ((HM0.out.drewN _).drewN _).drewN _⟩
    · go_quiet (fail)
      go_wp2
      go_meet
      case rel => exact ⟨rfl, by first | exact HM0.out.drewN _ | exact (HM0.out.drewN _).drewN _ | exact ((HM0.out.drewN _).drewN _).drewN _⟩
  case rest =>
    obtain ⟨rfl, HM⟩ := hcut
    clear c0 c1 c2 c3 f1 f2 f3 hways HM0
    obtain ⟨vo, vw, ⟨c0, c1, c2, c3, f1, f2, f3⟩, hbox, ho, hw⟩ := HM.out.at_
    have HBX := Lib.hid hbox; have HOO := Lib.hid ho; have HWW := Lib.hid hw
    clear hbox ho hw
    have h45 : c ≠ 45 := by rw [← HC.out]; exact n45
    have h33 : c ≠ 33 := by rw [← HC.out]; exact n33
    have h40 : c ≠ 40 := by rw [← HC.out]; exact n40
    have hd : ¬ isD c = true := by rw [← HC.out, ndd]; simp
    clear n45 n33 n40 ndd
    have t45 : ((c.toNat : Int) == 45) = false := byte_not (k := 45) (by decide) h45
    have t33 : ((c.toNat : Int) == 33) = false := byte_not (k := 33) (by decide) h33
    have t40 : ((c.toNat : Int) == 40) = false := byte_not (k := 40) (by decide) h40
    have hdt : decide ((48 : Int) ≤ c.toNat) = false ∨ ((48 : Int) ≤ c.toNat ∧ decide ((c.toNat : Int) ≤ 57) = false) := by
      have hd2 := decide_eq_false_iff_not.1 ((isD_cases c).symm.trans (by simpa using hd))
      by_cases ha : (48 : Int) ≤ c.toNat
      · exact Or.inr ⟨ha, decide_eq_false (fun e => hd2 ⟨ha, e⟩)⟩
      · exact Or.inl (decide_eq_false ha)
    have HP : Hid (operM s.data.toList p cs ws = wordM s.data.toList p cs ws X.data.toList) := by
      unfold operM; rw [HC.out, if_neg h45, if_neg h33, if_neg h40, if_neg hd, HX.out]; exact rfl
    have HCB2 : Hid ((nx s.data.toList (p + X.data.toList.length) = 40) = (cb = true)) := by
      rw [← Lib.size_eq, ← HCB.out]; exact propext (Iff.intro (fun h => by rw [h]; rfl) (fun h => beq_iff_eq.1 h))
    clear h45 h33 h40 hd HXB HCB HC HSP
    have hXs : X.size ≤ 600 := by omega
    have hXe : X.data.toList = [105, 110] := by rw [HX.out, hW]; rfl
    clear HX hW
    have b_re : (X.toList == [114, 101]) = false := by rw [is_list, hXe]; decide
    have b_im : (X.toList == [105, 109]) = false := by rw [is_list, hXe]; decide
    have b_in : (X.toList == [105, 110]) = true := by rw [is_list, hXe]; decide
    have b_true : (X.toList == [116, 114, 117, 101]) = false := by rw [is_list, hXe]; decide
    have b_false : (X.toList == [102, 97, 108, 115, 101]) = false := by rw [is_list, hXe]; decide
    rcases hdt with hd5 | ⟨hd5, hd6⟩
    all_goals
      have hq40 : nx s.data.toList (p + wIn.length) = 40 ↔ cb = true := by
        have := HCB2.out
        rw [hXe] at this
        exact Iff.of_eq this
      cases cb
      · have HP2 : Hid (operM s.data.toList p cs ws = .bad p) := by
          rw [HP.out, hXe]
          show wordM s.data.toList p cs ws wIn = _
          unfold wordM
          rw [if_neg (fun h => absurd h.1 (by decide)), if_neg (fun h => absurd h.1 (by decide)), if_neg (fun h => absurd (hq40.1 h.2) (by simp)), if_neg (by decide), if_neg (by decide), if_neg (by decide)]
        have HN6 : Hid (nameB X.data.toList = false) := by rw [hXe]; exact (by decide : nameB [105, 110] = false)
        clear hXe hq40
        go_wp2_with fail
        refine (refName_any X _).mono ?_
        rintro e w5 ⟨rfl, rfl⟩
        rw [HN6.out]
        go_wp2
        go_ret2
        rw [HP2.out]
        exact ⟨rfl, HM.out.below⟩
      · have hlt2 : p + 2 < s.size := by
          have h40 := hq40.2 rfl
          have := nx_lt (s := s.data.toList) (p := p + 2) (by
            have e : nx s.data.toList (p + 2) = 40 := h40
            rw [e]; decide)
          rw [← Lib.size_eq] at this; exact this
        have HPS : Hid (operM s.data.toList p cs ws = (if nameB (wordP s.data.toList (p + 3)) = true then
              (if nx s.data.toList (p + 3 + (wordP s.data.toList (p + 3)).length) = 41 then .go ⟨true, p + 3 + (wordP s.data.toList (p + 3)).length + 1, cs ++ [⟨6, 0, wordP s.data.toList (p + 3)⟩], ws⟩
               else .bad (p + 3 + (wordP s.data.toList (p + 3)).length))
             else .bad (p + 3))) := by
          rw [HP.out, hXe]
          show wordM s.data.toList p cs ws wIn = _
          unfold wordM
          rw [if_neg (fun h => absurd h.1 (by decide)), if_neg (fun h => absurd h.1 (by decide)), if_pos ⟨rfl, hq40.2 rfl⟩]
        obtain ⟨Y, hY⟩ : ∃ Y : ByteArray, Y.data.toList = wordP s.data.toList (p + 3) := ⟨⟨(wordP s.data.toList (p + 3)).toArray⟩, rfl⟩
        have hYb : bstr (wordP s.data.toList (p + 3)) = .string Y := by rw [← hY]; rfl
        have hYl : p + 3 + Y.size ≤ s.size := by
          have := word_le s.data.toList (p + 3) (by rw [← Lib.size_eq]; omega)
          rw [← hY, ← Lib.size_eq, ← Lib.size_eq] at this; exact this
        rw [← hY] at HPS
        have HYB := Lib.hid hYb; have HPP := Lib.hid (rfl : (0 : Nat) = 0)
        clear hXe hq40 hY hYb HP HPP
        have hp3 : (p : Int) + 3 = ((p + 3 : Nat) : Int) := by omega
        have HWD := Lib.hid (refWord_any HM.out (p + 3) (by omega) hs)
        rw [← hp3] at HWD
        unfold rp at HWD
        clear hp3
        go_wp2_with fail
        refine HWD.out.mono ?_
        rintro e w5 ⟨rfl, rfl⟩
        rw [HYB.out]
        go_wp2_with fail
        refine (refName_any Y _).mono ?_
        rintro e w6 ⟨rfl, rfl⟩
        cases hnm : nameB Y.data.toList
        · have HP2 : Hid (operM s.data.toList p cs ws = .bad (p + 3)) := by
            have := HPS.out
            rw [if_neg (by rw [hnm]; simp)] at this
            exact this
          clear hnm HPS
          go_wp2
          go_ret2
          rw [HP2.out]
          exact ⟨rfl, HM.out.below⟩
        · have hps := HPS.out
          rw [if_pos hnm, ← Lib.size_eq] at hps
          obtain ⟨q, hq⟩ : ∃ q, p + 3 + Y.size = q := ⟨_, rfl⟩
          rw [hq] at hps hYl
          have HPQ := Lib.hid hps
          have hqi : (p : Int) + (3 + (Y.size : Int)) = (q : Int) := by omega
          have hw3 : IntKind.i64.wrap (3 + (Y.size : Int)) = 3 + (Y.size : Int) := IntWalk.i64_in _ (by omega)
          obtain ⟨hb1, hb2, hb3⟩ := box_setAt HBX.out HOO.out HWW.out (q : Int) rfl
          have hm2 := HM.out.setAt (p' := q) (q : Int) rfl
          have HBX2 := Lib.hid hb1; have HOO2 := Lib.hid hb2; have HWW2 := Lib.hid hb3; have HM2 := Lib.hid hm2
          clear hps HPS hb1 hb2 hb3 hm2
          go_wp2
          clear c0 c1 c2 c3 f1 f2 f3 HBX HOO HWW HM
          generalize w5.setCell ⟨g, 1, none⟩ (.int .i64 (q : Int)) = W at HBX2 HOO2 HWW2 HM2 ⊢
          obtain ⟨c0, c1, c2, c3, f1, f2, f3⟩ := box_at HBX2.out
          by_cases h41 : nx s.data.toList q = 41
          · have hql : q < s.size := by
              have := nx_lt (s := s.data.toList) (p := q) (by rw [h41]; decide)
              rw [← Lib.size_eq] at this; exact this
            have t41 : ((s[q].toNat : Int) != 41) = false := by
              have : ((s[q].toNat : Int) == 41) = true := byte_is (k := 41) (by decide) (by rw [← lst_at s q hql]; exact h41)
              rw [bne, this]; rfl
            have tq : ((q : Int) == (s.size : Int)) = false := beq_eq_false_iff_ne.2 (by omega)
            have HP : Hid (operM s.data.toList p cs ws = .go ⟨true, q + 1, cs ++ [⟨6, 0, Y.data.toList⟩], ws⟩) := by
              have := HPQ.out
              rw [if_pos h41] at this
              exact this
            clear h41 HPQ
            go_quiet (fail)
            have HBX3 : Hid ((W.drewN nq).heap[g]? = _) := HBX2.out
            have HOO3 : Hid ((W.drewN nq).ownsRow w0.heap.size 93 3 vo cs.length (flat cs)) := HOO2.out
            have HWW3 : Hid ((W.drewN nq).ownsRow w0.heap.size 170 2 vw ws.length (flatW ws.reverse)) := HWW2.out
            have HM3 := Lib.hid (HM2.out.drewN nq)
            clear HBX2 HOO2 HWW2 HM2 c0 c1 c2 c3 f1 f2 f3
            generalize W.drewN nq = W3 at HBX3 HOO3 HWW3 HM3 ⊢
            obtain ⟨c0, c1, c2, c3, f1, f2, f3⟩ := box_at HBX3.out
            obtain ⟨hb1, hb2, hb3⟩ := box_setAt (p' := q + 1) HBX3.out HOO3.out HWW3.out ((q : Int) + 1) (by omega)
            have hm2 := HM3.out.setAt (p' := q + 1) ((q : Int) + 1) (by omega)
            have HBX := Lib.hid hb1; have HOO := Lib.hid hb2; have HWW := Lib.hid hb3; have HM := Lib.hid hm2
            clear hb1 hb2 hb3 hm2 HBX3 HOO3 HWW3 HM3
            obtain ⟨i1, hi1, hz0, hz1, hz2⟩ := info_parts Tryz.infoCell
            have HI := Lib.hid hi1; have HZ0 := Lib.hid hz0; have HZ1 := Lib.hid hz1; have HZ2 := Lib.hid hz2
            have hcl : cs.length ≤ 600 := by omega
            have HON := Lib.hid (HOO.out.alloc (.cells #[.int .i64 6, .int .i64 0, .string Y] 93))
            have HNW : Hid (((W3.setCell ⟨g, 1, none⟩ (.int .i64 ((q : Int) + 1))).alloc (.cells #[.int .i64 6, .int .i64 0, .string Y] 93)).heap[W3.heap.size]? = some (.cells #[.int .i64 6, .int .i64 0, .string Y] 93 (0, 0))) := by
              have := heap_alloc_new (W3.setCell ⟨g, 1, none⟩ (.int .i64 ((q : Int) + 1))) (.cells #[.int .i64 6, .int .i64 0, .string Y] 93)
              rw [World.size_setCell] at this; exact this
            have HSZ : Hid (w0.heap.size ≤ ((W3.setCell ⟨g, 1, none⟩ (.int .i64 ((q : Int) + 1))).alloc (.cells #[.int .i64 6, .int .i64 0, .string Y] 93)).heap.size) := by
              have := HM.out.size
              show _ ≤ _; simp at this ⊢; omega
            clear hi1 hz0 hz1 hz2
            go_wp2_with (at_builtin; refine wpList_append_lies _ rfl _ _ 57 rfl w0.heap.size 93 i1 _ 3 32 Tryz.underlying57 HI.out HZ0.out HZ1.out HZ2.out rfl (by decide) vo cs.length (flat cs) rfl HON.out ⟨W3.heap.size, 0, none⟩ 1 1 (cellV ⟨6, 0, Y.data.toList⟩) rfl rfl (World.news_of_block (cs := #[.int .i64 6, .int .i64 0, .string Y]) (t := 93) (fr := (0, 0)) HNW.out) (one_vals _) (by decide) (by unfold maxLen; omega) (by omega) HSZ.out (W3.heap.size + 1) (by simp) ?_)
            intro gg cap2 w5 hown2 hgrow2 hat2 hlt2
            have k1 := far_cell (j := 2) (u := vo) HBX.out rfl (own_ne2 HOO.out HBX.out reader_cell) hgrow2
            have k2 := far_out (j := 2) HBX.out (own_ne2 HOO.out HBX.out reader_cell) hgrow2
            have d1 := far_cell (j := 1) (u := .int .i64 ((q + 1 : Nat) : Int)) HBX.out rfl (own_ne2 HOO.out HBX.out reader_cell) hgrow2
            have d2 := far_out (j := 1) HBX.out (own_ne2 HOO.out HBX.out reader_cell) hgrow2
            have HM6 := Lib.hid (HM.out.outNew HBX.out HOO.out HWW.out ⟨6, 0, Y.data.toList⟩ ((Below.refl _ _).alloc (Nat.le_refl _) _) hown2 hgrow2)
            clear hown2 hgrow2 hat2 hlt2 HBX HOO HWW HON HSZ HNW HM c0 c1 c2 c3 f1 f2 f3
            go_wp2
            generalize w5.setCell ⟨g, 2, none⟩ (.slice (some ⟨gg, 0, none⟩) (cs.length + 1) cap2) = W at HM6 ⊢
            go_ret2
            rw [HP.out]
            exact ⟨rfl, HM6.out⟩
          · have HP2 : Hid (operM s.data.toList p cs ws = .bad q) := by
              have := HPQ.out
              rw [if_neg h41] at this
              exact this
            have hways : ((q : Int) == (s.size : Int)) = true ∨ (((q : Int) == (s.size : Int)) = false ∧ ∃ hql : q < s.size, ((s[q].toNat : Int) != 41) = true) := by
              by_cases hqs : q = s.size
              · exact Or.inl (beq_iff_eq.2 (by omega))
              · have hql : q < s.size := by omega
                refine Or.inr ⟨beq_eq_false_iff_ne.2 (by omega), hql, ?_⟩
                have : ((s[q].toNat : Int) == 41) = false := byte_not (k := 41) (by decide) (by rw [← lst_at s q hql]; exact h41)
                rw [bne, this]; rfl
            clear h41 HPQ
            rcases hways with tq | ⟨tq, hql, t41⟩
            all_goals
              go_quiet (fail)
              go_wp2
              go_ret2
              rw [HP2.out]
              exact ⟨rfl, (HM2.out.drewN _).below⟩
end

section
open Go.RowKit

set_option maxRecDepth 100000 in
set_option maxHeartbeats 8000000 in
theorem operand_name {w0 w : World} {g : Nat} {s : ByteArray} {p : Nat} {cs : List CM} {ws : List Wt} (h : MS w0 g s p cs ws w) (hp : p < s.size) (hs : s.size ≤ 600) (hb : cs.length + ws.length ≤ 600) (n45 : nx s.data.toList p ≠ 45) (n33 : nx s.data.toList p ≠ 33) (n40 : nx s.data.toList p ≠ 40) (ndd : isD (nx s.data.toList p) = false) (m1 : wordP s.data.toList p ≠ wRe) (m2 : wordP s.data.toList p ≠ wIm) (m3 : wordP s.data.toList p ≠ wIn) (m4 : wordP s.data.toList p ≠ wTrue) (m5 : wordP s.data.toList p ≠ wFalse) (hnm : nameB (wordP s.data.toList p) = true) :
    Calls Tryz.prog 90 #[rp g] w (OPost w0 g s (operM s.data.toList p cs ws)) := by
  have HM0 := Lib.hid h
  obtain ⟨X, hX⟩ : ∃ X : ByteArray, X.data.toList = wordP s.data.toList p := ⟨⟨(wordP s.data.toList p).toArray⟩, rfl⟩
  have hXb : bstr (wordP s.data.toList p) = .string X := by rw [← hX]; rfl
  have hXl : p + X.size ≤ s.size := by
    have := word_le s.data.toList p (by rw [← Lib.size_eq]; omega)
    rw [← hX, ← Lib.size_eq, ← Lib.size_eq] at this; exact this
  have HXB := Lib.hid hXb; have HX := Lib.hid hX
  obtain ⟨c, hc⟩ : ∃ c, nx s.data.toList p = c := ⟨_, rfl⟩
  have hsp : s[p] = c := by rw [← lst_at s p hp, hc]
  have HC := Lib.hid hc; have HSP := Lib.hid hsp
  have hne : ((p : Int) == (s.size : Int)) = false := beq_eq_false_iff_ne.2 (by omega)
  obtain ⟨cb, hcb⟩ : ∃ cb : Bool, (nx s.data.toList (p + X.size) == 40) = cb := ⟨_, rfl⟩
  have HCB := Lib.hid hcb
  have hways : (∃ hlt : p + X.size < s.size, ((s[p + X.size].toNat : Int) == 40) = cb) ∨ (decide ((p : Int) + (X.size : Int) < s.size) = false ∧ cb = false) := by
    by_cases hlt : p + X.size < s.size
    · refine Or.inl ⟨hlt, ?_⟩
      rw [← hcb, ← lst_at s _ hlt]
      cases hq : nx s.data.toList (p + X.size) == 40
      · exact byte_not (k := 40) (by decide) (beq_eq_false_iff_ne.1 hq)
      · exact byte_is (k := 40) (by decide) (beq_iff_eq.1 hq)
    · refine Or.inr ⟨decide_eq_false (by omega), ?_⟩
      rw [← hcb, nx_end (by rw [← Lib.size_eq]; omega)]; rfl
  obtain ⟨vo, vw, ⟨c0, c1, c2, c3, f1, f2, f3⟩, hbox, ho, hw⟩ := h.at_
  clear hbox ho hw h hX hXb hc hsp hcb
  unfold rp
  go_enter Tryz.func90, Tryz.ntmps90
  go_wp2
  go_quiet (fail)
  go_wp2
  go_quiet (fail)
  rw [HSP.out]
  go_wp2_with fail
  refine (refWord_any (by first | exact HM0.out.drewN _ | exact (HM0.out.drewN _).drewN _) p (by omega) hs).mono ?_
  rintro e w1 ⟨rfl, rfl⟩
  rw [HXB.out]
  go_wp2
  go_cut [6] from 37 (fun s6 wc => s6 = .bool cb ∧ Hid (MS w0 g s p cs ws wc))
  case first =>
    rcases hways with ⟨hlt, ht⟩ | ⟨ht, rfl⟩
    · have hlt' : (p : Int) + (X.size : Int) < s.size := by omega
      have hi0 : (0 : Int) ≤ (p : Int) + (X.size : Int) := by omega
      have hwr : IntKind.i64.wrap ((p : Int) + (X.size : Int)) = (p : Int) + (X.size : Int) := IntWalk.i64_in _ (by omega)
      have hnat : ((p : Int) + (X.size : Int)).toNat = p + X.size := by omega
      go_quiet (fail)
      go_wp2
      go_meet
      case rel => exact ⟨rfl, by first | exact HM0.out.drewN _ | exact (HM0.out.drewN _).drewN _ | exact ((HM0.out.drewN _).drewN _).drewN _⟩
    · go_quiet (fail)
      go_wp2
      go_meet
      case rel => exact ⟨rfl, by first | exact HM0.out.drewN _ | exact (HM0.out.drewN _).drewN _ | exact ((HM0.out.drewN _).drewN _).drewN _⟩
  case rest =>
    obtain ⟨rfl, HM⟩ := hcut
    clear c0 c1 c2 c3 f1 f2 f3 hways HM0
    obtain ⟨vo, vw, ⟨c0, c1, c2, c3, f1, f2, f3⟩, hbox, ho, hw⟩ := HM.out.at_
    have HBX := Lib.hid hbox; have HOO := Lib.hid ho; have HWW := Lib.hid hw
    clear hbox ho hw
    have h45 : c ≠ 45 := by rw [← HC.out]; exact n45
    have h33 : c ≠ 33 := by rw [← HC.out]; exact n33
    have h40 : c ≠ 40 := by rw [← HC.out]; exact n40
    have hd : ¬ isD c = true := by rw [← HC.out, ndd]; simp
    clear n45 n33 n40 ndd
    have t45 : ((c.toNat : Int) == 45) = false := byte_not (k := 45) (by decide) h45
    have t33 : ((c.toNat : Int) == 33) = false := byte_not (k := 33) (by decide) h33
    have t40 : ((c.toNat : Int) == 40) = false := byte_not (k := 40) (by decide) h40
    have hdt : decide ((48 : Int) ≤ c.toNat) = false ∨ ((48 : Int) ≤ c.toNat ∧ decide ((c.toNat : Int) ≤ 57) = false) := by
      have hd2 := decide_eq_false_iff_not.1 ((isD_cases c).symm.trans (by simpa using hd))
      by_cases ha : (48 : Int) ≤ c.toNat
      · exact Or.inr ⟨ha, decide_eq_false (fun e => hd2 ⟨ha, e⟩)⟩
      · exact Or.inl (decide_eq_false ha)
    have HP : Hid (operM s.data.toList p cs ws = wordM s.data.toList p cs ws X.data.toList) := by
      unfold operM; rw [HC.out, if_neg h45, if_neg h33, if_neg h40, if_neg hd, HX.out]; exact rfl
    have HCB2 : Hid ((nx s.data.toList (p + X.data.toList.length) = 40) = (cb = true)) := by
      rw [← Lib.size_eq, ← HCB.out]; exact propext (Iff.intro (fun h => by rw [h]; rfl) (fun h => beq_iff_eq.1 h))
    clear h45 h33 h40 hd HXB HCB HC HSP
    have hXs : X.size ≤ 600 := by omega
    rw [← HX.out] at m1 m2 m3 m4 m5 hnm
    clear HX
    have b_re : (X.toList == [114, 101]) = false := by rw [is_list]; exact decide_eq_false m1
    have b_im : (X.toList == [105, 109]) = false := by rw [is_list]; exact decide_eq_false m2
    have b_in : (X.toList == [105, 110]) = false := by rw [is_list]; exact decide_eq_false m3
    have b_true : (X.toList == [116, 114, 117, 101]) = false := by rw [is_list]; exact decide_eq_false m4
    have b_false : (X.toList == [102, 97, 108, 115, 101]) = false := by rw [is_list]; exact decide_eq_false m5
    rcases hdt with hd5 | ⟨hd5, hd6⟩
    all_goals
      have HP2 : Hid (operM s.data.toList p cs ws = .go ⟨true, p + X.size, cs ++ [⟨5, 0, X.data.toList⟩], ws⟩) := by
        rw [HP.out]; unfold wordM
        rw [if_neg (fun h => m1 h.1), if_neg (fun h => m2 h.1), if_neg (fun h => m3 h.1), if_neg m4, if_neg m5, if_pos hnm, ← Lib.size_eq]; exact rfl
      have HN6 := Lib.hid hnm
      clear m1 m2 m3 m4 m5 hnm HP
      have HP := HP2
      go_wp2_with fail
      refine (refName_any X _).mono ?_
      rintro e w5 ⟨rfl, rfl⟩
      rw [HN6.out]
      obtain ⟨i1, hi1, hz0, hz1, hz2⟩ := info_parts Tryz.infoCell
      have HI := Lib.hid hi1; have HZ0 := Lib.hid hz0; have HZ1 := Lib.hid hz1; have HZ2 := Lib.hid hz2
      have HON := Lib.hid (HOO.out.alloc (.cells #[.int .i64 5, .int .i64 0, .string X] 93))
      have HNW : Hid ((wc.alloc (.cells #[.int .i64 5, .int .i64 0, .string X] 93)).heap[wc.heap.size]? = some (.cells #[.int .i64 5, .int .i64 0, .string X] 93 (0, 0))) := by
        have := heap_alloc_new wc (.cells #[.int .i64 5, .int .i64 0, .string X] 93)
        exact this
      have HSZ : Hid (w0.heap.size ≤ (wc.alloc (.cells #[.int .i64 5, .int .i64 0, .string X] 93)).heap.size) := by
        have := HM.out.size
        show _ ≤ _; simp at this ⊢; omega
      clear hi1 hz0 hz1 hz2
      go_wp2_with (at_builtin; refine wpList_append_lies _ rfl _ _ 57 rfl w0.heap.size 93 i1 _ 3 32 Tryz.underlying57 HI.out HZ0.out HZ1.out HZ2.out rfl (by decide) vo cs.length (flat cs) rfl HON.out ⟨wc.heap.size, 0, none⟩ 1 1 (cellV ⟨5, 0, X.data.toList⟩) rfl rfl (World.news_of_block (cs := #[.int .i64 5, .int .i64 0, .string X]) (t := 93) (fr := (0, 0)) HNW.out) (one_vals _) (by decide) (by unfold maxLen; omega) (by omega) HSZ.out (wc.heap.size + 1) (by simp) ?_)
      intro gg cap2 w5 hown2 hgrow2 hat2 hlt2
      have k1 := far_cell (j := 2) (u := vo) HBX.out rfl (own_ne2 HOO.out HBX.out reader_cell) hgrow2
      have k2 := far_out (j := 2) HBX.out (own_ne2 HOO.out HBX.out reader_cell) hgrow2
      have d1 := far_cell (j := 1) (u := .int .i64 p) HBX.out rfl (own_ne2 HOO.out HBX.out reader_cell) hgrow2
      have d2 := far_out (j := 1) HBX.out (own_ne2 HOO.out HBX.out reader_cell) hgrow2
      have HM6 := Lib.hid (HM.out.outNew HBX.out HOO.out HWW.out ⟨5, 0, X.data.toList⟩ ((Below.refl _ _).alloc (Nat.le_refl _) _) hown2 hgrow2)
      clear hown2 hgrow2 hat2 hlt2 HBX HOO HWW HON HSZ HNW HM c0 c1 c2 c3 f1 f2 f3
      go_wp2
      generalize w5.setCell ⟨g, 2, none⟩ (.slice (some ⟨gg, 0, none⟩) (cs.length + 1) cap2) = W at HM6 ⊢
      go_ret2
      rw [HP.out]
      exact ⟨rfl, HM6.out.setAt (p' := p + X.size) ((p : Int) + (X.size : Int)) (by omega)⟩

set_option maxRecDepth 100000 in
set_option maxHeartbeats 8000000 in
theorem operand_none {w0 w : World} {g : Nat} {s : ByteArray} {p : Nat} {cs : List CM} {ws : List Wt} (h : MS w0 g s p cs ws w) (hp : p < s.size) (hs : s.size ≤ 600) (_hb : cs.length + ws.length ≤ 600) (n45 : nx s.data.toList p ≠ 45) (n33 : nx s.data.toList p ≠ 33) (n40 : nx s.data.toList p ≠ 40) (ndd : isD (nx s.data.toList p) = false) (m1 : wordP s.data.toList p ≠ wRe) (m2 : wordP s.data.toList p ≠ wIm) (m3 : wordP s.data.toList p ≠ wIn) (m4 : wordP s.data.toList p ≠ wTrue) (m5 : wordP s.data.toList p ≠ wFalse) (hnm : nameB (wordP s.data.toList p) = false) :
    Calls Tryz.prog 90 #[rp g] w (OPost w0 g s (operM s.data.toList p cs ws)) := by
  have HM0 := Lib.hid h
  obtain ⟨X, hX⟩ : ∃ X : ByteArray, X.data.toList = wordP s.data.toList p := ⟨⟨(wordP s.data.toList p).toArray⟩, rfl⟩
  have hXb : bstr (wordP s.data.toList p) = .string X := by rw [← hX]; rfl
  have hXl : p + X.size ≤ s.size := by
    have := word_le s.data.toList p (by rw [← Lib.size_eq]; omega)
    rw [← hX, ← Lib.size_eq, ← Lib.size_eq] at this; exact this
  have HXB := Lib.hid hXb; have HX := Lib.hid hX
  obtain ⟨c, hc⟩ : ∃ c, nx s.data.toList p = c := ⟨_, rfl⟩
  have hsp : s[p] = c := by rw [← lst_at s p hp, hc]
  have HC := Lib.hid hc; have HSP := Lib.hid hsp
  have hne : ((p : Int) == (s.size : Int)) = false := beq_eq_false_iff_ne.2 (by omega)
  obtain ⟨cb, hcb⟩ : ∃ cb : Bool, (nx s.data.toList (p + X.size) == 40) = cb := ⟨_, rfl⟩
  have HCB := Lib.hid hcb
  have hways : (∃ hlt : p + X.size < s.size, ((s[p + X.size].toNat : Int) == 40) = cb) ∨ (decide ((p : Int) + (X.size : Int) < s.size) = false ∧ cb = false) := by
    by_cases hlt : p + X.size < s.size
    · refine Or.inl ⟨hlt, ?_⟩
      rw [← hcb, ← lst_at s _ hlt]
      cases hq : nx s.data.toList (p + X.size) == 40
      · exact byte_not (k := 40) (by decide) (beq_eq_false_iff_ne.1 hq)
      · exact byte_is (k := 40) (by decide) (beq_iff_eq.1 hq)
    · refine Or.inr ⟨decide_eq_false (by omega), ?_⟩
      rw [← hcb, nx_end (by rw [← Lib.size_eq]; omega)]; rfl
  obtain ⟨vo, vw, ⟨c0, c1, c2, c3, f1, f2, f3⟩, hbox, ho, hw⟩ := h.at_
  clear hbox ho hw h hX hXb hc hsp hcb
  unfold rp
  go_enter Tryz.func90, Tryz.ntmps90
  go_wp2
  go_quiet (fail)
  go_wp2
  go_quiet (fail)
  rw [HSP.out]
  go_wp2_with fail
  refine (refWord_any (by first | exact HM0.out.drewN _ | exact (HM0.out.drewN _).drewN _) p (by omega) hs).mono ?_
  rintro e w1 ⟨rfl, rfl⟩
  rw [HXB.out]
  go_wp2
  go_cut [6] from 37 (fun s6 wc => s6 = .bool cb ∧ Hid (MS w0 g s p cs ws wc))
  case first =>
    rcases hways with ⟨hlt, ht⟩ | ⟨ht, rfl⟩
    · have hlt' : (p : Int) + (X.size : Int) < s.size := by omega
      have hi0 : (0 : Int) ≤ (p : Int) + (X.size : Int) := by omega
      have hwr : IntKind.i64.wrap ((p : Int) + (X.size : Int)) = (p : Int) + (X.size : Int) := IntWalk.i64_in _ (by omega)
      have hnat : ((p : Int) + (X.size : Int)).toNat = p + X.size := by omega
      go_quiet (fail)
      go_wp2
      go_meet
      case rel => exact ⟨rfl, by first | exact HM0.out.drewN _ | exact (HM0.out.drewN _).drewN _ | exact ((HM0.out.drewN _).drewN _).drewN _⟩
    · go_quiet (fail)
      go_wp2
      go_meet
      case rel => exact ⟨rfl, by first | exact HM0.out.drewN _ | exact (HM0.out.drewN _).drewN _ | exact ((HM0.out.drewN _).drewN _).drewN _⟩
  case rest =>
    obtain ⟨rfl, HM⟩ := hcut
    clear c0 c1 c2 c3 f1 f2 f3 hways HM0
    obtain ⟨vo, vw, ⟨c0, c1, c2, c3, f1, f2, f3⟩, hbox, ho, hw⟩ := HM.out.at_
    have HBX := Lib.hid hbox; have HOO := Lib.hid ho; have HWW := Lib.hid hw
    clear hbox ho hw
    have h45 : c ≠ 45 := by rw [← HC.out]; exact n45
    have h33 : c ≠ 33 := by rw [← HC.out]; exact n33
    have h40 : c ≠ 40 := by rw [← HC.out]; exact n40
    have hd : ¬ isD c = true := by rw [← HC.out, ndd]; simp
    clear n45 n33 n40 ndd
    have t45 : ((c.toNat : Int) == 45) = false := byte_not (k := 45) (by decide) h45
    have t33 : ((c.toNat : Int) == 33) = false := byte_not (k := 33) (by decide) h33
    have t40 : ((c.toNat : Int) == 40) = false := byte_not (k := 40) (by decide) h40
    have hdt : decide ((48 : Int) ≤ c.toNat) = false ∨ ((48 : Int) ≤ c.toNat ∧ decide ((c.toNat : Int) ≤ 57) = false) := by
      have hd2 := decide_eq_false_iff_not.1 ((isD_cases c).symm.trans (by simpa using hd))
      by_cases ha : (48 : Int) ≤ c.toNat
      · exact Or.inr ⟨ha, decide_eq_false (fun e => hd2 ⟨ha, e⟩)⟩
      · exact Or.inl (decide_eq_false ha)
    have HP : Hid (operM s.data.toList p cs ws = wordM s.data.toList p cs ws X.data.toList) := by
      unfold operM; rw [HC.out, if_neg h45, if_neg h33, if_neg h40, if_neg hd, HX.out]; exact rfl
    have HCB2 : Hid ((nx s.data.toList (p + X.data.toList.length) = 40) = (cb = true)) := by
      rw [← Lib.size_eq, ← HCB.out]; exact propext (Iff.intro (fun h => by rw [h]; rfl) (fun h => beq_iff_eq.1 h))
    clear h45 h33 h40 hd HXB HCB HC HSP
    have hXs : X.size ≤ 600 := by omega
    rw [← HX.out] at m1 m2 m3 m4 m5 hnm
    clear HX
    have b_re : (X.toList == [114, 101]) = false := by rw [is_list]; exact decide_eq_false m1
    have b_im : (X.toList == [105, 109]) = false := by rw [is_list]; exact decide_eq_false m2
    have b_in : (X.toList == [105, 110]) = false := by rw [is_list]; exact decide_eq_false m3
    have b_true : (X.toList == [116, 114, 117, 101]) = false := by rw [is_list]; exact decide_eq_false m4
    have b_false : (X.toList == [102, 97, 108, 115, 101]) = false := by rw [is_list]; exact decide_eq_false m5
    rcases hdt with hd5 | ⟨hd5, hd6⟩
    all_goals
      have HP2 : Hid (operM s.data.toList p cs ws = .bad p) := by
        rw [HP.out]; unfold wordM
        rw [if_neg (fun h => m1 h.1), if_neg (fun h => m2 h.1), if_neg (fun h => m3 h.1), if_neg m4, if_neg m5, if_neg (by rw [hnm]; simp)]; exact rfl
      have HN6 := Lib.hid hnm
      clear m1 m2 m3 m4 m5 hnm HP
      go_wp2_with fail
      refine (refName_any X _).mono ?_
      rintro e w5 ⟨rfl, rfl⟩
      rw [HN6.out]
      go_wp2
      go_ret2
      rw [HP2.out]
      exact ⟨rfl, HM.out.below⟩
end
end Go.Proofs.YtjgfkmakfdepcaaGreatDoor
