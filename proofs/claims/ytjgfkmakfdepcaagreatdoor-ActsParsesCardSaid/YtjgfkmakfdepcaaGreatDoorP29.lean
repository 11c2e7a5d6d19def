/- Own texts, joined: HE, A24. -/
import Derived.Test.YtjgfkmakfdepcaaGreatDoorP15
import Derived.Test.YtjgfkmakfdepcaaGreatDoorP22
import Derived.Test.YtjgfkmakfdepcaaGreatDoorP25
import Derived.Test.YtjgfkmakfdepcaaGreatDoorP26
import Derived.Test.YtjgfkmakfdepcaaGreatDoorP27
import Derived.Test.YtjgfkmakfdepcaaGreatDoorP28
namespace Go.Proofs.YtjgfkmakfdepcaaGreatDoor

section
open Go.RowKit

set_option maxRecDepth 100000 in
set_option maxHeartbeats 8000000 in
theorem operand_digit {w0 w : World} {g : Nat} {s : ByteArray} {p : Nat} {cs : List CM} {ws : List Wt} (h : MS w0 g s p cs ws w) (hp : p < s.size) (hs : s.size ≤ 600) (hb : cs.length + ws.length ≤ 600) (n45 : nx s.data.toList p ≠ 45) (n33 : nx s.data.toList p ≠ 33) (n40 : nx s.data.toList p ≠ 40) (hdd : isD (nx s.data.toList p) = true) :
    Calls Tryz.prog 90 #[rp g] w (OPost w0 g s (operM s.data.toList p cs ws)) := by
  have HM0 := Lib.hid h
  obtain ⟨X, hX⟩ : ∃ X : ByteArray, X.data.toList = wordP s.data.toList p := ⟨⟨(wordP s.data.toList p).toArray⟩, rfl⟩
  have hXb : bstr (wordP s.data.toList p) = .string X := by rw [← hX]; rfl
  have hXl : p + X.size ≤ s.size := by
    have := word_le s.data.toList p (by rw [← Lib.size_eq]; omega)
    rw [← hX, ← Lib.size_eq, ← Lib.size_eq] at this; exact this
  have HXB := Lib.hid hXb; have HX := Lib.hid hX
  obtain ⟨c, hc⟩ : ∃ c, nx s.data.toList p = c := ⟨_, rfl⟩
  have hsp : s[p] = c := by rw [← lst_at s p hp, hc]
  have HC := Lib.hid hc; have HSP := Lib.hid hsp
  have hne : ((p : Int) == (s.size : Int)) = false := beq_eq_false_iff_ne.2 (by omega)
  obtain ⟨cb, hcb⟩ : ∃ cb : Bool, (nx s.data.toList (p + X.size) == 40) = cb := ⟨_, rfl⟩
  have HCB := Lib.hid hcb
  have hways : (∃ hlt : p + X.size < s.size, ((s[p + X.size].toNat : Int) == 40) = cb) ∨ (decide ((p : Int) + (X.size : Int) < s.size) = false ∧ cb = false) := by
    by_cases hlt : p + X.size < s.size
    · refine Or.inl ⟨hlt, ?_⟩
      rw [← hcb, ← lst_at s _ hlt]
      cases hq : nx s.data.toList (p + X.size) == 40
      · exact byte_not (k := 40) (by decide) (beq_eq_false_iff_ne.1 hq)
      · exact byte_is (k := 40) (by decide) (beq_iff_eq.1 hq)
    · refine Or.inr ⟨decide_eq_false (by omega), ?_⟩
      rw [← hcb, nx_end (by rw [← Lib.size_eq]; omega)]; rfl
  obtain ⟨vo, vw, ⟨c0, c1, c2, c3, f1, f2, f3⟩, hbox, ho, hw⟩ := h.at_
  clear hbox ho hw h hX hXb hc hsp hcb
  unfold rp
  go_enter Tryz.func90, Tryz.ntmps90
  go_wp2
  go_quiet (fail)
  go_wp2
  go_quiet (fail)
  rw [HSP.out]
  go_wp2_with fail
  refine (refWord_any (by first | exact HM0.out.drewN _ | exact (HM0.out.drewN _).drewN _) p (by omega) hs).mono ?_
  rintro e w1 ⟨rfl, rfl⟩
  rw [HXB.out]
  go_wp2
  go_cut [6] from 37 (fun s6 wc => s6 = .bool cb ∧ Hid (MS w0 g s p cs ws wc))
  case first =>
    rcases hways with ⟨hlt, ht⟩ | ⟨ht, rfl⟩
    · have hlt' : (p : Int) + (X.size : Int) < s.size := by omega
      have hi0 : (0 : Int) ≤ (p : Int) + (X.size : Int) := by omega
      have hwr : IntKind.i64.wrap ((p : Int) + (X.size : Int)) = (p : Int) + (X.size : Int) := IntWalk.i64_in _ (by omega)
      have hnat : ((p : Int) + (X.size : Int)).toNat = p + X.size := by omega
      go_quiet (fail)
      go_wp2
      go_meet
      case rel => exact ⟨rfl, by first | exact HM0.out.drewN _ | exact (HM0.out.drewN _).drewN _ | exact ((HM0.out.drewN _).drewN _).drewN _⟩
    · go_quiet (fail)
      go_wp2
      go_meet
      case rel => exact ⟨rfl, by first | exact HM0.out.drewN _ | exact (HM0.out.drewN _).drewN _ | exact ((HM0.out.drewN _).drewN _).drewN _⟩
  case rest =>
    obtain ⟨rfl, HM⟩ := hcut
    clear c0 c1 c2 c3 f1 f2 f3 hways HM0
    obtain ⟨vo, vw, ⟨c0, c1, c2, c3, f1, f2, f3⟩, hbox, ho, hw⟩ := HM.out.at_
    have HBX := Lib.hid hbox; have HOO := Lib.hid ho; have HWW := Lib.hid hw
    clear hbox ho hw
    have h45 : c ≠ 45 := by rw [← HC.out]; exact n45
    have h33 : c ≠ 33 := by rw [← HC.out]; exact n33
    have h40 : c ≠ 40 := by rw [← HC.out]; exact n40
    have hd : isD c = true := by rw [← HC.out]; exact hdd
    clear n45 n33 n40 hdd
    have t45 : ((c.toNat : Int) == 45) = false := byte_not (k := 45) (by decide) h45
    have t33 : ((c.toNat : Int) == 33) = false := byte_not (k := 33) (by decide) h33
    have t40 : ((c.toNat : Int) == 40) = false := byte_not (k := 40) (by decide) h40
    have hd2 := decide_eq_true_iff.1 ((isD_cases c).symm.trans hd)
    obtain ⟨hd3, hd4⟩ := hd2
    have HP : Hid (operM s.data.toList p cs ws = numM s.data.toList p cs ws) := by
      unfold operM; rw [HC.out, if_neg h45, if_neg h33, if_neg h40, if_pos hd]; exact rfl
    have HNW := Lib.hid (refNumber_walk HM.out hp (by rw [HC.out]; exact hd) hs (by omega))
    have hnb : (numD s.data.toList p cs).1 = true ∨ ((numD s.data.toList p cs).1 = false ∧ (numD s.data.toList p cs).2.1 = p) := by
      cases hq : (numD s.data.toList p cs).1
      · refine Or.inr ⟨rfl, ?_⟩
        unfold numD at hq ⊢
        split
        · rfl
        · rename_i h0
          rw [if_neg h0] at hq
          split
          · rename_i h1
            rw [if_pos h1] at hq
            split
            · rename_i h2; rw [if_pos h2] at hq; cases hq
            · rfl
          · rename_i h1; rw [if_neg h1] at hq; cases hq
      · exact Or.inl rfl
    unfold rp at HNW
    clear hd h45 h33 h40 HBX HOO HWW
    go_wp2_with fail
    refine HNW.out.mono ?_
    rintro e w5 ⟨rfl, h5⟩
    have H5 := Lib.hid h5; clear h5 c0 c1 c2 c3 f1 f2 f3
    obtain ⟨vo, vw, ⟨c0, c1, c2, c3, f1, f2, f3⟩, hbox, ho, hw⟩ := H5.out.at_
    clear hbox ho hw
    rcases hnb with hb1 | ⟨hb1, hb2⟩
    · have HP2 : Hid (operM s.data.toList p cs ws = .go ⟨true, (numD s.data.toList p cs).2.1, (numD s.data.toList p cs).2.2, ws⟩) := by
        rw [HP.out]; unfold numM; rw [if_pos hb1]; exact rfl
      rw [hb1]
      clear hb1
      go_wp2
      go_ret2
      rw [HP2.out]
      exact ⟨rfl, H5.out⟩
    · have HP2 : Hid (operM s.data.toList p cs ws = .bad p) := by
        rw [HP.out]; unfold numM; rw [if_neg (by rw [hb1]; simp)]; exact rfl
      rw [hb1]
      rw [hb2] at c1
      clear hb1 hb2
      go_wp2
      go_ret2
      rw [HP2.out]
      exact ⟨rfl, H5.out.below⟩
end

section
/-- a step that goes on: further in the text, no more put down than read -/
def Fine (s : List UInt8) (p n : Nat) (r : Sp) : Prop := ∀ c, r = .go c → p < c.p ∧ c.p ≤ s.length ∧ c.out.length + c.w.length ≤ n + 1
theorem Fine.bad {s : List UInt8} {p n q : Nat} : Fine s p n (.bad q) := fun c h => by cases h
theorem Fine.fin {s : List UInt8} {p n : Nat} {o : List CM} : Fine s p n (.fin o) := fun c h => by cases h
theorem Fine.go {s : List UInt8} {p n : Nat} {c : Cf} (h1 : p < c.p) (h2 : c.p ≤ s.length) (h3 : c.out.length + c.w.length ≤ n + 1) : Fine s p n (.go c) := fun c' h => by cases h; exact ⟨h1, h2, h3⟩

theorem numD_len {s : List UInt8} {p : Nat} {cs : List CM} : (numD s p cs).2.2.length ≤ cs.length + 1 := by
  unfold numD
  split
  · simp
  · split
    · split <;> simp
    · simp
theorem fine_num {s : List UInt8} {p : Nat} {out : List CM} {w : List Wt} (hp : p < s.length) (hd : isD (nx s p) = true) : Fine s p (out.length + w.length) (numM s p out w) := by
  unfold numM
  split
  · rename_i ht
    have hg := goes_num (s := s) (p := p) (cs := out) hp hd
    have hgt := hg.gt ht
    have hle := hg.le
    have hl := numD_len (s := s) (p := p) (cs := out)
    exact Fine.go hgt hle (by show (numD s p out).2.2.length + w.length ≤ _; omega)
  · exact Fine.bad
theorem fine_word {s : List UInt8} {p : Nat} {out : List CM} {w : List Wt} (hp : p ≤ s.length) : Fine s p (out.length + w.length) (wordM s p out w (wordP s p)) := by
  have hwl := word_le s p hp
  generalize wordP s p = x at *
  unfold wordM
  split
  · rename_i h
    have hlt : p + x.length < s.length := nx_lt (by rw [h.2]; decide)
    have : x.length = 2 := by rw [h.1]; rfl
    exact Fine.go (by show p < p + 3; omega) (by show p + 3 ≤ _; omega) (by simp; omega)
  · split
    · rename_i h
      have hlt : p + x.length < s.length := nx_lt (by rw [h.2]; decide)
      have : x.length = 2 := by rw [h.1]; rfl
      exact Fine.go (by show p < p + 3; omega) (by show p + 3 ≤ _; omega) (by simp; omega)
    · split
      · split
        · split
          · rename_i h41
            have hlt := nx_lt (s := s) (by rw [h41]; decide)
            exact Fine.go (by show p < p + 3 + _ + 1; omega) (by show p + 3 + _ + 1 ≤ _; omega) (by simp; omega)
          · exact Fine.bad
        · exact Fine.bad
      · split
        · rename_i h
          have : x.length = 4 := by rw [h]; rfl
          exact Fine.go (by show p < p + 4; omega) (by show p + 4 ≤ _; omega) (by simp; omega)
        · split
          · rename_i h
            have : x.length = 5 := by rw [h]; rfl
            exact Fine.go (by show p < p + 5; omega) (by show p + 5 ≤ _; omega) (by simp; omega)
          · split
            · rename_i h
              have : 1 ≤ x.length := by
                cases x with
                | nil => cases h
                | cons c r => simp
              exact Fine.go (by show p < p + _; omega) (by show p + _ ≤ _; omega) (by simp; omega)
            · exact Fine.bad
theorem fine_oper {s : List UInt8} {p : Nat} {out : List CM} {w : List Wt} (hp : p ≤ s.length) : Fine s p (out.length + w.length) (operM s p out w) := by
  unfold operM
  split
  · rename_i h
    have := nx_lt (s := s) (p := p) (by rw [h]; decide)
    exact Fine.go (Nat.lt_succ_self _) this (by simp; omega)
  · split
    · rename_i h
      have := nx_lt (s := s) (p := p) (by rw [h]; decide)
      exact Fine.go (Nat.lt_succ_self _) this (by simp; omega)
    · split
      · rename_i h
        have := nx_lt (s := s) (p := p) (by rw [h]; decide)
        exact Fine.go (Nat.lt_succ_self _) this (by simp; omega)
      · split
        · rename_i h
          have := nx_lt (s := s) (p := p) (by intro e; rw [e] at h; exact absurd h (by decide))
          exact fine_num this h
        · exact fine_word hp
theorem flush_len (k : Int) (out : List CM) (ws : List Wt) : (flushO k out ws).length + (flushW k ws).length = out.length + ws.length := by
  induction ws generalizing out with
  | nil => rfl
  | cons x r ih =>
    show (if k ≤ x.2 then flushO k (out ++ [opC x.1]) r else out).length + (if k ≤ x.2 then flushW k r else x :: r).length = _
    split
    · rw [ih]; simp; omega
    · rfl
theorem fine_beh {s : List UInt8} {p : Nat} {out : List CM} {w : List Wt} : Fine s p (out.length + w.length) (behM s p out w) := by
  unfold behM
  split
  · split
    · exact Fine.fin
    · exact Fine.bad
  · rename_i hl
    split
    · have hs := flush_len 1 out w
      generalize flushW 1 w = V at *
      cases V with
      | nil => exact Fine.bad
      | cons x r =>
        refine Fine.go (Nat.lt_succ_self _) (by show p + 1 ≤ _; omega) ?_
        show (if x.1 = 0 then flushO 1 out w else flushO 1 out w ++ [opC x.1]).length + r.length ≤ _
        simp at hs
        split
        · omega
        · simp; omega
    · split
      · exact Fine.bad
      · rename_i h0
        split
        · exact Fine.bad
        · have hop := opAt_some (s := s) (p := p) h0
          have hs := flush_len ((opAt s p).2.2 : Nat) out w
          exact Fine.go (by show p < p + _; omega) hop.2 (by simp; omega)
theorem fine_step {s : List UInt8} {c : Cf} (hp : c.p ≤ s.length) : Fine s c.p (c.out.length + c.w.length) (stepM s c) := by
  unfold stepM
  split
  · exact fine_beh
  · exact fine_oper hp

theorem oper_end {s : List UInt8} {out : List CM} {w : List Wt} : operM s s.length out w = .bad s.length := by
  have h0 : nx s s.length = 0 := nx_end (Nat.le_refl _)
  have hw : wordP s s.length = [] := by unfold wordP; simp
  unfold operM
  rw [h0, if_neg (by decide), if_neg (by decide), if_neg (by decide), if_neg (by decide), hw]
  unfold wordM
  rw [if_neg (fun h => absurd h.1 (by decide)), if_neg (fun h => absurd h.1 (by decide)), if_neg (fun h => absurd h.1 (by decide)), if_neg (by decide), if_neg (by decide), if_neg (by decide)]

/-- one step of a run that ends -/
theorem ends_step {s : List UInt8} {c : Cf} {R : Sp} (h : Ends s c R) : (∃ c', stepM s c = .go c' ∧ Ends s c' R) ∨ (∃ p, stepM s c = .bad p ∧ R = .bad p) ∨ (∃ o, stepM s c = .fin o ∧ R = .fin o) := by
  obtain ⟨n, hn⟩ := h
  cases n with
  | zero => cases hn
  | succ n =>
    simp only [runM] at hn
    cases hs : stepM s c with
    | go c' => rw [hs] at hn; exact Or.inl ⟨c', rfl, n, hn⟩
    | bad p => rw [hs] at hn; exact Or.inr (Or.inl ⟨p, rfl, (Option.some.inj hn).symm⟩)
    | fin o => rw [hs] at hn; exact Or.inr (Or.inr ⟨o, rfl, (Option.some.inj hn).symm⟩)
end

section
open Go.RowKit

theorem refOperand_any {w0 w : World} {g : Nat} {s : ByteArray} {p : Nat} {cs : List CM} {ws : List Wt} (h : MS w0 g s p cs ws w) (hp : p ≤ s.size) (hs : s.size ≤ 600) (hb : cs.length + ws.length ≤ 600) :
    Calls Tryz.prog 90 #[rp g] w (OPost w0 g s (operM s.data.toList p cs ws)) := by
  have hl : s.data.toList.length = s.size := (Lib.size_eq s).symm
  by_cases he : p = s.size
  · subst he
    have e : operM s.data.toList s.size cs ws = .bad s.size := by
      have := oper_end (s := s.data.toList) (out := cs) (w := ws)
      rw [hl] at this; exact this
    rw [e]
    exact operand_end h
  have hlt : p < s.size := by omega
  by_cases h45 : nx s.data.toList p = 45
  · exact operand_45 h hlt hs hb h45
  by_cases h33 : nx s.data.toList p = 33
  · exact operand_33 h hlt hs hb h33
  by_cases h40 : nx s.data.toList p = 40
  · exact operand_40 h hlt hs hb h40
  by_cases hd : isD (nx s.data.toList p) = true
  · exact operand_digit h hlt hs hb h45 h33 h40 hd
  have hd : isD (nx s.data.toList p) = false := by simpa using hd
  by_cases h1 : wordP s.data.toList p = wRe
  · exact operand_re h hlt hs hb h45 h33 h40 hd h1
  by_cases h2 : wordP s.data.toList p = wIm
  · exact operand_im h hlt hs hb h45 h33 h40 hd h2
  by_cases h3 : wordP s.data.toList p = wIn
  · exact operand_in h hlt hs hb h45 h33 h40 hd h3
  by_cases h4 : wordP s.data.toList p = wTrue
  · exact operand_true h hlt hs hb h45 h33 h40 hd h4
  by_cases h5 : wordP s.data.toList p = wFalse
  · exact operand_false h hlt hs hb h45 h33 h40 hd h5
  cases hn : nameB (wordP s.data.toList p)
  · exact operand_none h hlt hs hb h45 h33 h40 hd h1 h2 h3 h4 h5 hn
  · exact operand_name h hlt hs hb h45 h33 h40 hd h1 h2 h3 h4 h5 hn

theorem refBehind_any {w0 w : World} {g : Nat} {s : ByteArray} {p : Nat} {cs : List CM} {ws : List Wt} (h : MS w0 g s p cs ws w) (hp : p ≤ s.size) (hs : s.size ≤ 600) (hb : cs.length + ws.length ≤ 600) :
    Calls Tryz.prog 91 #[rp g] w (BPost w0 g s (behM s.data.toList p cs ws)) := by
  have hl : s.data.toList.length = s.size := (Lib.size_eq s).symm
  by_cases he : p = s.size
  · subst he
    have e : behM s.data.toList s.size cs ws = if flushW 1 ws = [] then .fin (flushO 1 cs ws) else .bad s.size := by
      unfold behM; rw [if_pos (by omega)]
    rw [e]
    exact behind_end h hb
  have hlt : p < s.size := by omega
  by_cases h41 : nx s.data.toList p = 41
  · have e : behM s.data.toList p cs ws = shutM p (flushO 1 cs ws) (flushW 1 ws) := by
      unfold behM; rw [if_neg (by omega), if_pos h41]
    rw [e]
    exact behind_shut h hlt (by rw [← lst_at s p hlt]; exact h41) hs hb
  · have e : behM s.data.toList p cs ws = opM s.data.toList p cs ws := by
      unfold behM opM; rw [if_neg (by omega), if_neg h41]
    rw [e]
    exact behind_op h hlt (by rw [← lst_at s p hlt]; exact h41) hs hb

theorem MS.begin (w : World) (s : ByteArray) : MS w w.heap.size s 0 [] [] (w.alloc (.cells #[.string s, .int .i64 0, .slice none 0 0, .slice none 0 0] 133)) :=
  ⟨⟨_, _, heap_alloc_new w _, World.ownsRow_nil _ _ _ _, World.ownsRow_nil _ _ _ _⟩, Nat.le_refl _, (Below.refl _ _).alloc (Nat.le_refl _) _⟩
theorem MS.place {w0 w : World} {g : Nat} {s : ByteArray} {p : Nat} {cs : List CM} {ws : List Wt} (h : MS w0 g s p cs ws w) : cur w ⟨g, 1, none⟩ = .int .i64 p := by
  obtain ⟨vo, vw, ⟨c0, c1, c2, c3, f1, f2, f3⟩, hbox, ho, hw⟩ := h.at_
  unfold cur; rw [c1]; rfl
/-- how far it is to the end -/
def leftV (n : Nat) (next pv : Value) : Nat := if intOf next = 2 then 0 else n + 1 - (intOf pv).toNat
theorem leftV_run (n : Nat) (x : Int) (p : Nat) (h : x ≠ 2) : leftV n (.int .i64 x) (.int .i64 p) = n + 1 - p := by
  show (if x = 2 then 0 else n + 1 - ((p : Int)).toNat) = _; rw [if_neg h]; rfl
theorem leftV_done (n : Nat) (v : Value) : leftV n (.int .i64 2) v = 0 := rfl

set_option maxRecDepth 100000 in
set_option maxHeartbeats 4000000 in
theorem refParse_any (s : ByteArray) (w : World) (hs : s.size ≤ 9223372036854775807) :
    Calls Tryz.prog 63 #[.string s] w (ParsePost s.data.toList w) := by
  have sz : s.data.toList.length = s.size := (Lib.size_eq s).symm
  by_cases h6 : 600 < s.size
  · have hP : parseP s.data.toList = ([], 0, 4) := by unfold parseP; rw [if_pos (by rw [sz]; exact h6)]
    have h6' : (600 : Int) < s.size := by omega
    have HP := Lib.hid (ParsePost.of (w := w) (w' := w) (v := .slice none 0 0) hP ⟨World.ownsRow_nil _ _ _ _, Below.refl _ _⟩)
    clear hP
    go_enter Tryz.func63, Tryz.ntmps63
    go_wp2
    go_ret3
    exact HP.out
  · have h6' : decide ((600 : Int) < s.size) = false := decide_eq_false (by omega)
    obtain ⟨R, hE, hR⟩ := machine s.data.toList (by rw [sz]; exact h6)
    have HR := Lib.hid hR; have HE := Lib.hid hE
    have HB := Lib.hid (MS.begin w s)
    have hs6 : s.size ≤ 600 := by omega
    clear hR hE h6 hs
    go_enter Tryz.func63, Tryz.ntmps63
    go_wp2
    go_loopw [6, 7, 8, 9] (fun x6 _ _ _ wr => (∃ c : Cf, x6 = .int .i64 (if c.beh = true then 1 else 0) ∧ Hid (MS w w.heap.size s c.p c.out c.w wr ∧ c.p ≤ s.size ∧ c.out.length + c.w.length ≤ c.p ∧ Ends s.data.toList c R)) ∨ (x6 = .int .i64 2 ∧ Hid (∃ p o, MS w w.heap.size s p o [] wr ∧ R = .fin o))) (fun x6 _ _ _ wr => leftV s.size x6 (cur wr ⟨w.heap.size, 1, none⟩))
    case atStart => exact Or.inl ⟨⟨false, 0, [], []⟩, rfl, HB.out, Nat.zero_le _, Nat.le_refl _, HE.out⟩
    case round =>
      rcases hrel with ⟨c, rfl, HC⟩ | ⟨rfl, HD⟩
      · obtain ⟨hm, hcp, hcb, hce⟩ := HC.out
        have HM := Lib.hid hm
        have hfine := fine_step (s := s.data.toList) (c := c) (by omega)
        obtain ⟨beh, p, out, ws⟩ := c
        simp only at hm hcp hcb hfine
        have HPL := Lib.hid hm.place
        have hstep := ends_step hce
        have HF := Lib.hid hfine
        cases beh
        · have hO := refOperand_any hm hcp hs6 (by omega)
          have HO := Lib.hid hO
          unfold rp at HO
          have hst : stepM s.data.toList ⟨false, p, out, ws⟩ = operM s.data.toList p out ws := rfl
          rw [hst] at hstep HF
          clear hO hm hce HC hfine hst
          rcases hstep with ⟨c', hg, he⟩ | ⟨q, hg, rfl⟩ | ⟨o, hg, rfl⟩
          · have HFF := Lib.hid (HF.out c' hg)
            have HEE := Lib.hid he
            rw [hg] at HO
            clear hg he HF
            obtain ⟨beh', p', out', ws'⟩ := c'
            go_wp2_with fail
            refine HO.out.mono ?_
            rintro e w2 ⟨rfl, h2⟩
            have H2 := Lib.hid h2; clear h2
            have hf1 : p < p' := HFF.out.1
            have hf2 : p' ≤ s.data.toList.length := HFF.out.2.1
            have hf3 : out'.length + ws'.length ≤ out.length + ws.length + 1 := HFF.out.2.2
            rw [sz] at hf2
            cases beh'
            all_goals
              go_wp2
              go_roundw
              case rel => exact Or.inl ⟨⟨_, p', out', ws'⟩, rfl, H2.out, hf2, by show out'.length + ws'.length ≤ p'; omega, HEE.out⟩
              case measure =>
                have hpl := H2.out.place
                rw [HPL.out, hpl]
                refine Nat.lt_of_le_of_lt (Nat.le_of_eq (leftV_run _ _ _ (by simp))) (Nat.lt_of_lt_of_le ?_ (Nat.le_of_eq (leftV_run _ _ _ (by simp)).symm))
                show s.size + 1 - p' < s.size + 1 - p
                omega
          · rw [hg] at HO
            have HPP : Hid (parseP s.data.toList = ([], q, 1)) := HR.out.symm
            clear hg HF HE
            go_wp2_with fail
            refine HO.out.mono ?_
            rintro e w2 ⟨rfl, h2⟩
            have H2 := Lib.hid h2; clear h2
            have hq0 : (0 : Int) ≤ (q : Int) := by omega
            go_wp2
            go_ret3
            exact ParsePost.of HPP.out ⟨World.ownsRow_nil _ _ _ _, H2.out⟩
          · rw [hg] at HO
            clear hg HF HE
            go_wp2_with fail
            refine HO.out.mono ?_
            rintro e w2 h2
            exact False.elim h2
        · have hO := refBehind_any hm hcp hs6 (by omega)
          have HO := Lib.hid hO
          unfold rp at HO
          have hst : stepM s.data.toList ⟨true, p, out, ws⟩ = behM s.data.toList p out ws := rfl
          rw [hst] at hstep HF
          clear hO hm hce HC hfine hst
          rcases hstep with ⟨c', hg, he⟩ | ⟨q, hg, rfl⟩ | ⟨o, hg, rfl⟩
          · have HFF := Lib.hid (HF.out c' hg)
            have HEE := Lib.hid he
            rw [hg] at HO
            clear hg he HF
            obtain ⟨beh', p', out', ws'⟩ := c'
            go_wp2_with fail
            refine HO.out.mono ?_
            rintro e w2 ⟨rfl, h2⟩
            have H2 := Lib.hid h2; clear h2
            have hf1 : p < p' := HFF.out.1
            have hf2 : p' ≤ s.data.toList.length := HFF.out.2.1
            have hf3 : out'.length + ws'.length ≤ out.length + ws.length + 1 := HFF.out.2.2
            rw [sz] at hf2
            cases beh'
            all_goals
              go_wp2
              go_roundw
              case rel => exact Or.inl ⟨⟨_, p', out', ws'⟩, rfl, H2.out, hf2, by show out'.length + ws'.length ≤ p'; omega, HEE.out⟩
              case measure =>
                have hpl := H2.out.place
                rw [HPL.out, hpl]
                refine Nat.lt_of_le_of_lt (Nat.le_of_eq (leftV_run _ _ _ (by simp))) (Nat.lt_of_lt_of_le ?_ (Nat.le_of_eq (leftV_run _ _ _ (by simp)).symm))
                show s.size + 1 - p' < s.size + 1 - p
                omega
          · rw [hg] at HO
            have HPP : Hid (parseP s.data.toList = ([], q, 1)) := HR.out.symm
            clear hg HF HE
            go_wp2_with fail
            refine HO.out.mono ?_
            rintro e w2 ⟨rfl, h2⟩
            have H2 := Lib.hid h2; clear h2
            have hq0 : (0 : Int) ≤ (q : Int) := by omega
            go_wp2
            go_ret3
            exact ParsePost.of HPP.out ⟨World.ownsRow_nil _ _ _ _, H2.out⟩
          · rw [hg] at HO
            clear hg HF HE
            go_wp2_with fail
            refine HO.out.mono ?_
            rintro e w2 ⟨rfl, h2⟩
            have H2 := Lib.hid h2; clear h2
            go_wp2
            go_roundw
            case rel => exact Or.inr ⟨rfl, by obtain ⟨p', h2⟩ := H2.out; exact ⟨p', o, h2, rfl⟩⟩
            case measure =>
              rw [HPL.out]
              refine Nat.lt_of_le_of_lt (Nat.le_of_eq (leftV_done _ _)) (Nat.lt_of_lt_of_le ?_ (Nat.le_of_eq (leftV_run _ _ _ (by simp)).symm))
              omega
      · obtain ⟨p, o, hm, hRo⟩ := HD.out
        have HM := Lib.hid hm
        obtain ⟨vo, vw, ⟨c0, c1, c2, c3, f1, f2, f3⟩, hbox, ho, hw⟩ := hm.at_
        have hform : ∃ A c, vo = .slice A o.length c := by
          rcases ho.2 with ⟨rfl, h0⟩ | ⟨g, cap, cur, rfl, _⟩
          · exact ⟨none, 0, by rw [h0]⟩
          · exact ⟨_, _, rfl⟩
        obtain ⟨A, c, rfl⟩ := hform
        have HOO := Lib.hid ho
        have HRO := Lib.hid hRo
        clear hbox ho hw hm HD hRo
        by_cases h32 : 32 < o.length
        · have HPP : Hid (parseP s.data.toList = ([], 0, 4)) := by
            rw [← HR.out, HRO.out]; show (if 32 < o.length then _ else _) = _; rw [if_pos h32]
          have h32' : (32 : Int) < o.length := by omega
          go_wp2
          go_ret3
          exact ParsePost.of HPP.out ⟨World.ownsRow_nil _ _ _ _, HM.out.below⟩
        · have HPP : Hid (parseP s.data.toList = (o, 0, 0)) := by
            rw [← HR.out, HRO.out]; show (if 32 < o.length then _ else _) = _; rw [if_neg h32]
          have h32' : decide ((32 : Int) < o.length) = false := decide_eq_false (by omega)
          go_wp2
          go_ret3
          exact ParsePost.of HPP.out ⟨HOO.out, HM.out.below⟩

end
end Go.Proofs.YtjgfkmakfdepcaaGreatDoor
namespace Go.Proofs.YtjgfkmakfdepcaaGreatDoor
open Go.RowKit

theorem own_out {w : World} {B : Nat} {e : TypeId} {size n : Nat} {v : Value} {xs : List Value} {b : Nat} (h : w.ownsRow B e size v n xs) (hb : b < B) (j : Nat) (u : Value) : (w.setCell ⟨b, j, none⟩ u).ownsRow B e size v n xs :=
  h.kept (Lib.grownBy_setB (World.grownBy.refl w (some b)) _ _) (by
    cases hv : v.ownBlock with
    | none => exact Or.inl rfl
    | some q => exact Or.inr (fun e => by have := (h.lt q hv).1; have e := Option.some.inj e; omega))
theorem set_boxes {w w3 W4 : World} {z0 z1 z2 a0 a1 a2 x0 x1 x2 : Value} {t e : TypeId} {size n : Nat} {v : Value} {xs : List Value}
    (hz : w3.heap[w.heap.size]? = some (.cells #[z0, z1, z2] t (0, 0))) (ha : w3.heap[w.heap.size + 1]? = some (.cells #[a0, a1, a2] t (0, 0))) (hb : Below w.heap.size w w3) (hs : w.heap.size + 2 ≤ w3.heap.size) (ho : w3.ownsRow (w.heap.size + 2) e size v n xs)
    (hW : W4 = (((w3.setCell ⟨w.heap.size + 1, 0, none⟩ x0).setCell ⟨w.heap.size + 1, 1, none⟩ x1).setCell ⟨w.heap.size + 1, 2, none⟩ x2)) :
    W4.heap[w.heap.size]? = some (.cells #[z0, z1, z2] t (0, 0)) ∧ W4.heap[w.heap.size + 1]? = some (.cells #[x0, x1, x2] t (0, 0)) ∧ Below w.heap.size w W4 ∧ w.heap.size + 2 ≤ W4.heap.size ∧ W4.ownsRow (w.heap.size + 2) e size v n xs := by
  subst hW
  have h1 := heap_setCell_same _ _ 0 _ _ x0 ha
  have h2 := heap_setCell_same _ _ 1 _ _ x1 h1
  have h3 := heap_setCell_same _ _ 2 _ _ x2 h2
  refine ⟨?_, h3, ((hb.setCell (by simp) _).setCell (by simp) _).setCell (by simp) _, by simpa using hs, own_out (own_out (own_out ho (by omega) _ _) (by omega) _ _) (by omega) _ _⟩
  rw [Below.heap_setCell _ _ _ _ (by simp), Below.heap_setCell _ _ _ _ (by simp), Below.heap_setCell _ _ _ _ (by simp)]
  exact hz

set_option maxRecDepth 100000 in
set_option maxHeartbeats 4000000 in
theorem refRead_set (s : ByteArray) (w : World) (hs : s.size ≤ 6000) (h0 : Lib.hasPrefix s.data.toList wRaise = false) (h1 : Lib.hasPrefix s.data.toList wSend = false) :
    Calls Tryz.prog 33 #[.string s] w (ReadRPost s.data.toList w) := by
  have hr : readA s.data.toList = ⟨1, (Lib.cut s.data.toList [61]).1, (parseP (Lib.cut s.data.toList [61]).2.1).1⟩ := by
    unfold readA; rw [if_neg (by rw [h0]; decide), if_neg (by rw [h1]; decide)]
  have hsl : s.data.toList.length = s.size := (Lib.size_eq s).symm
  have HST := Lib.hid (fun W => starts_any s ⟨#[114, 97, 105, 115, 101, 58]⟩ W (by omega) (by decide))
  have HSS := Lib.hid (fun W => starts_any s ⟨#[115, 101, 110, 100, 58]⟩ W (by omega) (by decide))
  have h2 : Lib.hasPrefix s.data.toList (⟨#[114, 97, 105, 115, 101, 58]⟩ : ByteArray).data.toList = false := h0
  have h3 : Lib.hasPrefix s.data.toList (⟨#[115, 101, 110, 100, 58]⟩ : ByteArray).data.toList = false := h1
  have H1 := Lib.hid h2
  have H2 := Lib.hid h3
  have HRA := Lib.hid hr
  have HSL := Lib.hid hsl
  obtain ⟨hZ, hA, hB, hS⟩ := two_boxes w #[.int .i64 0, .string ⟨#[]⟩, .slice none 0 0] #[.int .i64 0, .string ⟨#[]⟩, .slice none 0 0] 59
  have HZ := Lib.hid hZ; have HA := Lib.hid hA; have HBW := Lib.hid hB
  have HSZ := Lib.hid hS
  obtain ⟨d0, d1, d2, f0, f1, f2⟩ := at3r hZ
  obtain ⟨g0, g1, g2, _⟩ := at3r hA
  have HNO : Hid (∀ k x, ¬ k < s.size → (∀ x ∈ s.data.toList.take k, x ≠ 61) → Below w.heap.size w x → ReadRPost s.data.toList w (.returned (.tuple #[.agg #[.int .i64 0, .string ⟨#[]⟩, .slice none 0 0], .bool false])) x) := fun k x hk hx hb => by
    rw [List.take_of_length_le (by omega)] at hx
    refine ⟨_, _, _, _, _, _, rfl, ?_, (fun h => (by cases h)), hb⟩
    rw [hr, cut_no hx]
    exact (one_none _).symm
  clear h0 h1 h2 h3 hr hsl hZ hA hB hS
  go_enter Tryz.func33, Tryz.ntmps33
  go_wp2_with fail
  refine (HST.out _).mono ?_
  rintro e w1 ⟨rfl, hw1⟩
  rw [H1.out]
  obtain rfl := hw1.symm
  clear hw1
  go_wp2_with fail
  refine (HSS.out _).mono ?_
  rintro e w1 ⟨rfl, hw1⟩
  rw [H2.out]
  obtain rfl := hw1.symm
  clear hw1
  go_wp2
  go_loop [5] (fun i => ∃ k : Nat, k ≤ s.size ∧ Hid (∀ x ∈ s.data.toList.take k, x ≠ 61) ∧ i = .int .i64 k) (fun i => s.size - (intOf i).toNat)
  case atStart => exact ⟨0, by omega, (fun x hx => (by simp at hx)), rfl⟩
  case round =>
    obtain ⟨k, hk, HK, rfl⟩ := hrel
    by_cases hlt : k < s.size
    · by_cases hc : s[k] = 61
      · have hkl : s.data.toList[k]? = some 61 := by
          rw [List.getElem?_eq_getElem (by rw [HSL.out]; exact hlt), at_list s k hlt, hc]
        have hcut := cut_at HK.out hkl
        have hr := HRA.out
        rw [hcut] at hr
        simp only at hr
        have hX1 : (s.extract (k + 1) s.size).data.toList = s.data.toList.drop (k + 1) := Lib.extract_to_end s (k + 1)
        have hX0 : (s.extract 0 k).data.toList = s.data.toList.take k := by rw [Lib.extract_data, List.drop_zero]; rfl
        have hXs : (s.extract (k + 1) s.size).size ≤ 6000 := by rw [Lib.size_eq, hX1, List.length_drop, HSL.out]; omega
        have hXz : (s.extract 0 k).size ≤ 6000 := by rw [Lib.size_eq, hX0, List.length_take, HSL.out]; omega
        have hP := refParse_any (s.extract (k + 1) s.size) ((w.alloc (.cells #[.int .i64 0, .string ⟨#[]⟩, .slice none 0 0] 59)).alloc (.cells #[.int .i64 0, .string ⟨#[]⟩, .slice none 0 0] 59)) (by omega)
        rw [hX1] at hP
        unfold ParsePost at hP
        have hN := parse_names (s.data.toList.drop (k + 1))
        have hE := parse_none (s := s.data.toList.drop (k + 1))
        have hce : ((s[k].toNat : Int) == 61) = true := by rw [hc]; rfl
        have hks : ((k : Int) == (s.size : Int)) = false := int_ne (by omega)
        clear hkl hcut hc
        generalize parseP (s.data.toList.drop (k + 1)) = q at *
        obtain ⟨cs, qp, qe⟩ := q
        simp only at hr hN hE hP
        have HP := Lib.hid hP
        clear hP
        by_cases hq : qe = 0
        · subst hq
          have HN := Lib.hid hN
          have HR := Lib.hid hr
          have HX0 := Lib.hid hX0
          clear hr hN hE hX0 hX1
          go_wp2_with fail
          refine HP.out.mono ?_
          rintro e w3 ⟨v, rfl, hown⟩
          obtain ⟨Av, cv, eV⟩ := own_slice hown.own
          subst eV
          have hbB := hown.below
          have hz3 := (hbB.block w.heap.size (by rw [HSZ.out]; omega)).trans HZ.out
          have ha3 := (hbB.block (w.heap.size + 1) (by rw [HSZ.out]; omega)).trans HA.out
          have hbw3 := HBW.out.trans (hbB.mono HBW.out.size)
          have hs3 := hbB.size
          rw [HSZ.out] at hs3
          obtain ⟨W4, hW4⟩ : ∃ W, W = (((w3.setCell ⟨w.heap.size + 1, 0, none⟩ (.int .i64 1)).setCell ⟨w.heap.size + 1, 1, none⟩ (.string (s.extract 0 k))).setCell ⟨w.heap.size + 1, 2, none⟩ (.slice Av cs.length cv)) := ⟨_, rfl⟩
          obtain ⟨hz4, ha4, hb4, hs4, ho4⟩ := set_boxes hz3 ha3 hbw3 hs3 (own_lower hown.own (show w.heap.size + 2 ≤ _ by rw [HSZ.out]; omega)) hW4
          have hO := refOne_any 1 (s.extract 0 k) (.slice Av cs.length cv) cs W4.drew (own_rdi (own_below ho4 (Below.refl _ _).drew)) (by have := HN.out.2; omega) HN.out.1 (by omega)
          rw [HX0.out, ← HR.out] at hO
          have HF : Hid (∀ (b : Bool) (W : World), Below w.heap.size w W → W.ownsRow (w.heap.size + 2) 93 3 (.slice Av cs.length cv) cs.length (flat cs) → b = oneB (readA s.data.toList) → ReadRPost s.data.toList w (.returned (.tuple #[.agg #[.int .i64 1, .string (s.extract 0 k), .slice Av cs.length cv], .bool b])) W) := fun b W hb ho h1 =>
            ⟨_, _, _, _, _, _, rfl, h1, fun _ => ⟨by rw [HR.out], by rw [HR.out, HX0.out], by rw [HR.out]; exact own_lower ho (by omega), by rw [HR.out]; have := HN.out.2; simp only; omega, by rw [HR.out]; exact HN.out.1, by rw [HR.out, ← HX0.out]; simp only; rw [← Lib.size_eq]; omega⟩, hb⟩
          generalize oneB (readA s.data.toList) = b1 at *
          have HO := Lib.hid hO
          have HZ4 := Lib.hid hz4; have HA4 := Lib.hid ha4; have HB4 := Lib.hid hb4; have HS4 := Lib.hid hs4; have HO4 := Lib.hid ho4
          obtain ⟨_, _, _, f0, f1, f2⟩ := at3r ha3
          obtain ⟨g0, g1, g2, _⟩ := at3r ha4
          clear hO hz4 ha4 hb4 hs4 ho4 hz3 ha3 hbw3 hs3 hbB hown
          go_wp2
          rw [← hW4]
          clear hW4
          go_region_with (go_at_call 29; refine (HO.out).mono ?_; rintro e w1 ⟨rfl, hb1⟩; obtain ⟨hz1, ha1, hbw, hbW⟩ := after_oneR HZ4.out HA4.out HB4.out HS4.out hb1; obtain ⟨d0, d1, d2, f0, f1, f2⟩ := at3r hz1; obtain ⟨g0, g1, g2, _⟩ := at3r ha1; clear hb1)
          all_goals
            go_wp2
            obtain ⟨⟨r0, r1, r2⟩, hbf⟩ := fin3r hz1 (Nat.le_refl _) hbw (.int .i64 1) (.string (s.extract 0 k)) (.slice Av cs.length cv)
            refine bodyPost_ret ?_ rfl (HF.out _ _ hbf (own_out (own_out (own_out (own_below HO4.out hbW) (by omega) _ _) (by omega) _ _) (by omega) _ _) rfl)
            simp [results, Tryz.results33, go_sem, r0, r1, r2]
        · have hcs := hE hq
          subst hcs
          have hq1 := int_ne hq
          have hq2 : (qe != 0) = true := bne_iff_ne.2 hq
          have HR := Lib.hid hr
          clear hr hN hE hX0 hX1
          go_wp2_with fail
          refine HP.out.mono ?_
          rintro e w3 ⟨v, rfl, hown⟩
          have hbB := hown.below
          have hz3 := (hbB.block w.heap.size (by rw [HSZ.out]; omega)).trans HZ.out
          have ha3 := (hbB.block (w.heap.size + 1) (by rw [HSZ.out]; omega)).trans HA.out
          have hbw3 := HBW.out.trans (hbB.mono HBW.out.size)
          obtain ⟨Av, cv, eV⟩ := own_slice hown.own
          subst eV
          clear d0 d1 d2 f0 f1 f2 g0 g1 g2 hown hbB
          obtain ⟨d0, d1, d2, f0, f1, f2⟩ := at3r hz3
          obtain ⟨g0, g1, g2, _⟩ := at3r ha3
          go_wp2
          obtain ⟨⟨r0, r1, r2⟩, hbf⟩ := fin3r hz3 (Nat.le_refl _) hbw3 (.int .i64 0) (.string ⟨#[]⟩) (.slice none 0 0)
          refine bodyPost_ret ?_ rfl ⟨0, ⟨#[]⟩, none, 0, 0, false, rfl, (by rw [HR.out, one_none]), (fun h => (by cases h)), hbf⟩
          simp [results, Tryz.results33, go_sem, r0, r1, r2]
      · have HE := Lib.hid (take_ne hlt HK.out hc)
        have hc' : (s[k] != 61) = true := bne_iff_ne.2 hc
        have hc2 : ((s[k].toNat : Int) == 61) = false := beq_eq_false_iff_ne.2 (fun e => hc (UInt8.toNat_inj.1 (by show s[k].toNat = 61; omega)))
        go_wp2
        go_round
        case rel => exact ⟨k + 1, by omega, HE, by go_num⟩
        case measure => simp [intOf]; omega
    · obtain rfl : k = s.size := by omega
      go_wp2
      refine bodyPost_ret ?_ rfl (HNO.out _ _ hlt HK.out HBW.out)
      simp [results, Tryz.results33, go_sem, d0, d1, d2]
end Go.Proofs.YtjgfkmakfdepcaaGreatDoor
