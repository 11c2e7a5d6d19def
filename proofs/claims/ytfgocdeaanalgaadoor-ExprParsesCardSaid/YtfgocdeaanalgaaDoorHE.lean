/- Each step of the machine goes on in the text, and puts down no more than it has read. No program is named here. The document's reader: a step of each kind; its Parse at every text; the law ExprParses walked. -/
import Derived.Test.YtfgocdeaanalgaaDoorH5
import Derived.Test.YtfgocdeaanalgaaDoorH6
import Derived.Test.YtfgocdeaanalgaaDoorH9
import Derived.Test.YtfgocdeaanalgaaDoorHB
import Derived.Test.YtfgocdeaanalgaaDoorF9
namespace Go.Proofs.YtfgocdeaanalgaaDoor

section
open Go.RowKit

set_option maxRecDepth 100000 in
set_option maxHeartbeats 8000000 in
theorem operand_digit {w0 w : World} {g : Nat} {s : ByteArray} {p : Nat} {cs : List CM} {ws : List Wt} (h : MS w0 g s p cs ws w) (hp : p < s.size) (hs : s.size ≤ 600) (hb : cs.length + ws.length ≤ 600) (n45 : nx s.data.toList p ≠ 45) (n33 : nx s.data.toList p ≠ 33) (n40 : nx s.data.toList p ≠ 40) (hdd : isD (nx s.data.toList p) = true) :
    Calls Tryd.prog 24 #[rp g] w (OPost w0 g s (operM s.data.toList p cs ws)) := by
  have HM0 := Lib.hid h
  obtain ⟨X, hX⟩ : ∃ X : ByteArray, X.data.toList = wordP s.data.toList p := ⟨⟨(wordP s.data.toList p).toArray⟩, rfl⟩
  have hXb : bstr (wordP s.data.toList p) = .string X := by rw [← hX]; rfl
  have hXl : p + X.size ≤ s.size := by
    have := word_le s.data.toList p (by rw [← Lib.size_eq]; omega)
    rw [← hX, ← Lib.size_eq, ← Lib.size_eq] at this; exact this
  have HXB := Lib.hid hXb; have HX := Lib.hid hX
  obtain ⟨c, hc⟩ : ∃ c, nx s.data.toList p = c := ⟨_, rfl⟩
  have hsp : s[p] = c := by rw [← lst_at s p hp, hc]
  have HC := Lib.hid hc; have HSP := Lib.hid hsp
  have hne : ((p : Int) == (s.size : Int)) = false := beq_eq_false_iff_ne.2 (by omega)
  obtain ⟨cb, hcb⟩ : ∃ cb : Bool, (nx s.data.toList (p + X.size) == 40) = cb := ⟨_, rfl⟩
  have HCB := Lib.hid hcb
  have hways : (∃ hlt : p + X.size < s.size, ((s[p + X.size].toNat : Int) == 40) = cb) ∨ (decide ((p : Int) + (X.size : Int) < s.size) = false ∧ cb = false) := by
    by_cases hlt : p + X.size < s.size
    · refine Or.inl ⟨hlt, ?_⟩
      rw [← hcb, ← lst_at s _ hlt]
      cases hq : nx s.data.toList (p + X.size) == 40
      · exact byte_not (k := 40) (by decide) (beq_eq_false_iff_ne.1 hq)
      · exact byte_is (k := 40) (by decide) (beq_iff_eq.1 hq)
    · refine Or.inr ⟨decide_eq_false (by omega), ?_⟩
      rw [← hcb, nx_end (by rw [← Lib.size_eq]; omega)]; rfl
  obtain ⟨vo, vw, ⟨c0, c1, c2, c3, f1, f2, f3⟩, hbox, ho, hw⟩ := h.at_
  clear hbox ho hw h hX hXb hc hsp hcb
  unfold rp
  go_enter Tryd.func24, Tryd.ntmps24
  go_wp2
  go_quiet (fail)
  go_wp2
  go_quiet (fail)
  rw [HSP.out]
  go_wp2_with fail
  refine (refWord_any (by first | exact HM0.out.drewN _ | exact (HM0.out.drewN _).drewN _) p (by omega) hs).mono ?_
  rintro e w1 ⟨rfl, rfl⟩
  rw [HXB.out]
  go_wp2
  go_cut [6] from 37 (fun s6 wc => s6 = .bool cb ∧ Hid (MS w0 g s p cs ws wc))
  case first =>
    rcases hways with ⟨hlt, ht⟩ | ⟨ht, rfl⟩
    · have hlt' : (p : Int) + (X.size : Int) < s.size := by omega
      have hi0 : (0 : Int) ≤ (p : Int) + (X.size : Int) := by omega
      have hwr : IntKind.i64.wrap ((p : Int) + (X.size : Int)) = (p : Int) + (X.size : Int) := IntWalk.i64_in _ (by omega)
      have hnat : ((p : Int) + (X.size : Int)).toNat = p + X.size := by omega
      go_quiet (fail)
      go_wp2
      go_meet
      case rel => exact ⟨rfl, by first | exact HM0.out.drewN _ | exact (HM0.out.drewN _).drewN _ | exact ((HM0.out.drewN _).drewN _).drewN _⟩
    · go_quiet (fail)
      go_wp2
      go_meet
      case rel => exact ⟨rfl, by first | exact HM0.out.drewN _ | exact (HM0.out.drewN _).drewN _ | exact ((HM0.out.drewN _).drewN _).drewN _⟩
  case rest =>
    obtain ⟨rfl, HM⟩ := hcut
    clear c0 c1 c2 c3 f1 f2 f3 hways HM0
    obtain ⟨vo, vw, ⟨c0, c1, c2, c3, f1, f2, f3⟩, hbox, ho, hw⟩ := HM.out.at_
    have HBX := Lib.hid hbox; have HOO := Lib.hid ho; have HWW := Lib.hid hw
    clear hbox ho hw
    have h45 : c ≠ 45 := by rw [← HC.out]; exact n45
    have h33 : c ≠ 33 := by rw [← HC.out]; exact n33
    have h40 : c ≠ 40 := by rw [← HC.out]; exact n40
    have hd : isD c = true := by rw [← HC.out]; exact hdd
    clear n45 n33 n40 hdd
    have t45 : ((c.toNat : Int) == 45) = false := byte_not (k := 45) (by decide) h45
    have t33 : ((c.toNat : Int) == 33) = false := byte_not (k := 33) (by decide) h33
    have t40 : ((c.toNat : Int) == 40) = false := byte_not (k := 40) (by decide) h40
    have hd2 := decide_eq_true_iff.1 ((isD_cases c).symm.trans hd)
    obtain ⟨hd3, hd4⟩ := hd2
    have HP : Hid (operM s.data.toList p cs ws = numM s.data.toList p cs ws) := by
      unfold operM; rw [HC.out, if_neg h45, if_neg h33, if_neg h40, if_pos hd]; exact rfl
    have HNW := Lib.hid (refNumber_walk HM.out hp (by rw [HC.out]; exact hd) hs (by omega))
    have hnb : (numD s.data.toList p cs).1 = true ∨ ((numD s.data.toList p cs).1 = false ∧ (numD s.data.toList p cs).2.1 = p) := by
      cases hq : (numD s.data.toList p cs).1
      · refine Or.inr ⟨rfl, ?_⟩
        unfold numD at hq ⊢
        split
        · rfl
        · rename_i h0
          rw [if_neg h0] at hq
          split
          · rename_i h1
            rw [if_pos h1] at hq
            split
            · rename_i h2; rw [if_pos h2] at hq; cases hq
            · rfl
          · rename_i h1; rw [if_neg h1] at hq; cases hq
      · exact Or.inl rfl
    unfold rp at HNW
    clear hd h45 h33 h40 HBX HOO HWW
    go_wp2_with fail
    refine HNW.out.mono ?_
    rintro e w5 ⟨rfl, h5⟩
    have H5 := Lib.hid h5; clear h5 c0 c1 c2 c3 f1 f2 f3
    obtain ⟨vo, vw, ⟨c0, c1, c2, c3, f1, f2, f3⟩, hbox, ho, hw⟩ := H5.out.at_
    clear hbox ho hw
    rcases hnb with hb1 | ⟨hb1, hb2⟩
    · have HP2 : Hid (operM s.data.toList p cs ws = .go ⟨true, (numD s.data.toList p cs).2.1, (numD s.data.toList p cs).2.2, ws⟩) := by
        rw [HP.out]; unfold numM; rw [if_pos hb1]; exact rfl
      rw [hb1]
      clear hb1
      go_wp2
      go_ret2
      rw [HP2.out]
      exact ⟨rfl, H5.out⟩
    · have HP2 : Hid (operM s.data.toList p cs ws = .bad p) := by
        rw [HP.out]; unfold numM; rw [if_neg (by rw [hb1]; simp)]; exact rfl
      rw [hb1]
      rw [hb2] at c1
      clear hb1 hb2
      go_wp2
      go_ret2
      rw [HP2.out]
      exact ⟨rfl, H5.out.below⟩
end

section
/-- a step that goes on: further in the text, no more put down than read -/
def Fine (s : List UInt8) (p n : Nat) (r : Sp) : Prop := ∀ c, r = .go c → p < c.p ∧ c.p ≤ s.length ∧ c.out.length + c.w.length ≤ n + 1
theorem Fine.bad {s : List UInt8} {p n q : Nat} : Fine s p n (.bad q) := fun c h => by cases h
theorem Fine.fin {s : List UInt8} {p n : Nat} {o : List CM} : Fine s p n (.fin o) := fun c h => by cases h
theorem Fine.go {s : List UInt8} {p n : Nat} {c : Cf} (h1 : p < c.p) (h2 : c.p ≤ s.length) (h3 : c.out.length + c.w.length ≤ n + 1) : Fine s p n (.go c) := fun c' h => by cases h; exact ⟨h1, h2, h3⟩

theorem numD_len {s : List UInt8} {p : Nat} {cs : List CM} : (numD s p cs).2.2.length ≤ cs.length + 1 := by
  unfold numD
  split
  · simp
  · split
    · split <;> simp
    · simp
theorem fine_num {s : List UInt8} {p : Nat} {out : List CM} {w : List Wt} (hp : p < s.length) (hd : isD (nx s p) = true) : Fine s p (out.length + w.length) (numM s p out w) := by
  unfold numM
  split
  · rename_i ht
    have hg := goes_num (s := s) (p := p) (cs := out) hp hd
    have hgt := hg.gt ht
    have hle := hg.le
    have hl := numD_len (s := s) (p := p) (cs := out)
    exact Fine.go hgt hle (by show (numD s p out).2.2.length + w.length ≤ _; omega)
  · exact Fine.bad
theorem fine_word {s : List UInt8} {p : Nat} {out : List CM} {w : List Wt} (hp : p ≤ s.length) : Fine s p (out.length + w.length) (wordM s p out w (wordP s p)) := by
  have hwl := word_le s p hp
  generalize wordP s p = x at *
  unfold wordM
  split
  · rename_i h
    have hlt : p + x.length < s.length := nx_lt (by rw [h.2]; decide)
    have : x.length = 2 := by rw [h.1]; rfl
    exact Fine.go (by show p < p + 3; omega) (by show p + 3 ≤ _; omega) (by simp; omega)
  · split
    · rename_i h
      have hlt : p + x.length < s.length := nx_lt (by rw [h.2]; decide)
      have : x.length = 2 := by rw [h.1]; rfl
      exact Fine.go (by show p < p + 3; omega) (by show p + 3 ≤ _; omega) (by simp; omega)
    · split
      · split
        · split
          · rename_i h41
            have hlt := nx_lt (s := s) (by rw [h41]; decide)
            exact Fine.go (by show p < p + 3 + _ + 1; omega) (by show p + 3 + _ + 1 ≤ _; omega) (by simp; omega)
          · exact Fine.bad
        · exact Fine.bad
      · split
        · rename_i h
          have : x.length = 4 := by rw [h]; rfl
          exact Fine.go (by show p < p + 4; omega) (by show p + 4 ≤ _; omega) (by simp; omega)
        · split
          · rename_i h
            have : x.length = 5 := by rw [h]; rfl
            exact Fine.go (by show p < p + 5; omega) (by show p + 5 ≤ _; omega) (by simp; omega)
          · split
            · rename_i h
              have : 1 ≤ x.length := by
                cases x with
                | nil => cases h
                | cons c r => simp
              exact Fine.go (by show p < p + _; omega) (by show p + _ ≤ _; omega) (by simp; omega)
            · exact Fine.bad
theorem fine_oper {s : List UInt8} {p : Nat} {out : List CM} {w : List Wt} (hp : p ≤ s.length) : Fine s p (out.length + w.length) (operM s p out w) := by
  unfold operM
  split
  · rename_i h
    have := nx_lt (s := s) (p := p) (by rw [h]; decide)
    exact Fine.go (Nat.lt_succ_self _) this (by simp; omega)
  · split
    · rename_i h
      have := nx_lt (s := s) (p := p) (by rw [h]; decide)
      exact Fine.go (Nat.lt_succ_self _) this (by simp; omega)
    · split
      · rename_i h
        have := nx_lt (s := s) (p := p) (by rw [h]; decide)
        exact Fine.go (Nat.lt_succ_self _) this (by simp; omega)
      · split
        · rename_i h
          have := nx_lt (s := s) (p := p) (by intro e; rw [e] at h; exact absurd h (by decide))
          exact fine_num this h
        · exact fine_word hp
theorem flush_len (k : Int) (out : List CM) (ws : List Wt) : (flushO k out ws).length + (flushW k ws).length = out.length + ws.length := by
  induction ws generalizing out with
  | nil => rfl
  | cons x r ih =>
    show (if k ≤ x.2 then flushO k (out ++ [opC x.1]) r else out).length + (if k ≤ x.2 then flushW k r else x :: r).length = _
    split
    · rw [ih]; simp; omega
    · rfl
theorem fine_beh {s : List UInt8} {p : Nat} {out : List CM} {w : List Wt} : Fine s p (out.length + w.length) (behM s p out w) := by
  unfold behM
  split
  · split
    · exact Fine.fin
    · exact Fine.bad
  · rename_i hl
    split
    · have hs := flush_len 1 out w
      generalize flushW 1 w = V at *
      cases V with
      | nil => exact Fine.bad
      | cons x r =>
        refine Fine.go (Nat.lt_succ_self _) (by show p + 1 ≤ _; omega) ?_
        show (if x.1 = 0 then flushO 1 out w else flushO 1 out w ++ [opC x.1]).length + r.length ≤ _
        simp at hs
        split
        · omega
        · simp; omega
    · split
      · exact Fine.bad
      · rename_i h0
        split
        · exact Fine.bad
        · have hop := opAt_some (s := s) (p := p) h0
          have hs := flush_len ((opAt s p).2.2 : Nat) out w
          exact Fine.go (by show p < p + _; omega) hop.2 (by simp; omega)
theorem fine_step {s : List UInt8} {c : Cf} (hp : c.p ≤ s.length) : Fine s c.p (c.out.length + c.w.length) (stepM s c) := by
  unfold stepM
  split
  · exact fine_beh
  · exact fine_oper hp

theorem oper_end {s : List UInt8} {out : List CM} {w : List Wt} : operM s s.length out w = .bad s.length := by
  have h0 : nx s s.length = 0 := nx_end (Nat.le_refl _)
  have hw : wordP s s.length = [] := by unfold wordP; simp
  unfold operM
  rw [h0, if_neg (by decide), if_neg (by decide), if_neg (by decide), if_neg (by decide), hw]
  unfold wordM
  rw [if_neg (fun h => absurd h.1 (by decide)), if_neg (fun h => absurd h.1 (by decide)), if_neg (fun h => absurd h.1 (by decide)), if_neg (by decide), if_neg (by decide), if_neg (by decide)]

/-- one step of a run that ends -/
theorem ends_step {s : List UInt8} {c : Cf} {R : Sp} (h : Ends s c R) : (∃ c', stepM s c = .go c' ∧ Ends s c' R) ∨ (∃ p, stepM s c = .bad p ∧ R = .bad p) ∨ (∃ o, stepM s c = .fin o ∧ R = .fin o) := by
  obtain ⟨n, hn⟩ := h
  cases n with
  | zero => cases hn
  | succ n =>
    simp only [runM] at hn
    cases hs : stepM s c with
    | go c' => rw [hs] at hn; exact Or.inl ⟨c', rfl, n, hn⟩
    | bad p => rw [hs] at hn; exact Or.inr (Or.inl ⟨p, rfl, (Option.some.inj hn).symm⟩)
    | fin o => rw [hs] at hn; exact Or.inr (Or.inr ⟨o, rfl, (Option.some.inj hn).symm⟩)
end

section
open Go.RowKit

theorem refOperand_any {w0 w : World} {g : Nat} {s : ByteArray} {p : Nat} {cs : List CM} {ws : List Wt} (h : MS w0 g s p cs ws w) (hp : p ≤ s.size) (hs : s.size ≤ 600) (hb : cs.length + ws.length ≤ 600) :
    Calls Tryd.prog 24 #[rp g] w (OPost w0 g s (operM s.data.toList p cs ws)) := by
  have hl : s.data.toList.length = s.size := (Lib.size_eq s).symm
  by_cases he : p = s.size
  · subst he
    have e : operM s.data.toList s.size cs ws = .bad s.size := by
      have := oper_end (s := s.data.toList) (out := cs) (w := ws)
      rw [hl] at this; exact this
    rw [e]
    exact operand_end h
  have hlt : p < s.size := by omega
  by_cases h45 : nx s.data.toList p = 45
  · exact operand_45 h hlt hs hb h45
  by_cases h33 : nx s.data.toList p = 33
  · exact operand_33 h hlt hs hb h33
  by_cases h40 : nx s.data.toList p = 40
  · exact operand_40 h hlt hs hb h40
  by_cases hd : isD (nx s.data.toList p) = true
  · exact operand_digit h hlt hs hb h45 h33 h40 hd
  have hd : isD (nx s.data.toList p) = false := by simpa using hd
  by_cases h1 : wordP s.data.toList p = wRe
  · exact operand_re h hlt hs hb h45 h33 h40 hd h1
  by_cases h2 : wordP s.data.toList p = wIm
  · exact operand_im h hlt hs hb h45 h33 h40 hd h2
  by_cases h3 : wordP s.data.toList p = wIn
  · exact operand_in h hlt hs hb h45 h33 h40 hd h3
  by_cases h4 : wordP s.data.toList p = wTrue
  · exact operand_true h hlt hs hb h45 h33 h40 hd h4
  by_cases h5 : wordP s.data.toList p = wFalse
  · exact operand_false h hlt hs hb h45 h33 h40 hd h5
  cases hn : nameB (wordP s.data.toList p)
  · exact operand_none h hlt hs hb h45 h33 h40 hd h1 h2 h3 h4 h5 hn
  · exact operand_name h hlt hs hb h45 h33 h40 hd h1 h2 h3 h4 h5 hn

theorem refBehind_any {w0 w : World} {g : Nat} {s : ByteArray} {p : Nat} {cs : List CM} {ws : List Wt} (h : MS w0 g s p cs ws w) (hp : p ≤ s.size) (hs : s.size ≤ 600) (hb : cs.length + ws.length ≤ 600) :
    Calls Tryd.prog 25 #[rp g] w (BPost w0 g s (behM s.data.toList p cs ws)) := by
  have hl : s.data.toList.length = s.size := (Lib.size_eq s).symm
  by_cases he : p = s.size
  · subst he
    have e : behM s.data.toList s.size cs ws = if flushW 1 ws = [] then .fin (flushO 1 cs ws) else .bad s.size := by
      unfold behM; rw [if_pos (by omega)]
    rw [e]
    exact behind_end h hb
  have hlt : p < s.size := by omega
  by_cases h41 : nx s.data.toList p = 41
  · have e : behM s.data.toList p cs ws = shutM p (flushO 1 cs ws) (flushW 1 ws) := by
      unfold behM; rw [if_neg (by omega), if_pos h41]
    rw [e]
    exact behind_shut h hlt (by rw [← lst_at s p hlt]; exact h41) hs hb
  · have e : behM s.data.toList p cs ws = opM s.data.toList p cs ws := by
      unfold behM opM; rw [if_neg (by omega), if_neg h41]
    rw [e]
    exact behind_op h hlt (by rw [← lst_at s p hlt]; exact h41) hs hb

theorem MS.begin (w : World) (s : ByteArray) : MS w w.heap.size s 0 [] [] (w.alloc (.cells #[.string s, .int .i64 0, .slice none 0 0, .slice none 0 0] 53)) :=
  ⟨⟨_, _, heap_alloc_new w _, World.ownsRow_nil _ _ _ _, World.ownsRow_nil _ _ _ _⟩, Nat.le_refl _, (Below.refl _ _).alloc (Nat.le_refl _) _⟩
theorem MS.place {w0 w : World} {g : Nat} {s : ByteArray} {p : Nat} {cs : List CM} {ws : List Wt} (h : MS w0 g s p cs ws w) : cur w ⟨g, 1, none⟩ = .int .i64 p := by
  obtain ⟨vo, vw, ⟨c0, c1, c2, c3, f1, f2, f3⟩, hbox, ho, hw⟩ := h.at_
  unfold cur; rw [c1]; rfl
/-- how far it is to the end -/
def leftV (n : Nat) (next pv : Value) : Nat := if intOf next = 2 then 0 else n + 1 - (intOf pv).toNat
theorem leftV_run (n : Nat) (x : Int) (p : Nat) (h : x ≠ 2) : leftV n (.int .i64 x) (.int .i64 p) = n + 1 - p := by
  show (if x = 2 then 0 else n + 1 - ((p : Int)).toNat) = _; rw [if_neg h]; rfl
theorem leftV_done (n : Nat) (v : Value) : leftV n (.int .i64 2) v = 0 := rfl

set_option maxRecDepth 100000 in
set_option maxHeartbeats 4000000 in
theorem refParse_any (s : ByteArray) (w : World) (hs : s.size ≤ 9223372036854775807) :
    Calls Tryd.prog 16 #[.string s] w (ParsePost s.data.toList w) := by
  have sz : s.data.toList.length = s.size := (Lib.size_eq s).symm
  by_cases h6 : 600 < s.size
  · have hP : parseP s.data.toList = ([], 0, 4) := by unfold parseP; rw [if_pos (by rw [sz]; exact h6)]
    have h6' : (600 : Int) < s.size := by omega
    have HP := Lib.hid (ParsePost.of (w := w) (w' := w) (v := .slice none 0 0) hP ⟨World.ownsRow_nil _ _ _ _, Below.refl _ _⟩)
    clear hP
    go_enter Tryd.func16, Tryd.ntmps16
    go_wp2
    go_ret3
    exact HP.out
  · have h6' : decide ((600 : Int) < s.size) = false := decide_eq_false (by omega)
    obtain ⟨R, hE, hR⟩ := machine s.data.toList (by rw [sz]; exact h6)
    have HR := Lib.hid hR; have HE := Lib.hid hE
    have HB := Lib.hid (MS.begin w s)
    have hs6 : s.size ≤ 600 := by omega
    clear hR hE h6 hs
    go_enter Tryd.func16, Tryd.ntmps16
    go_wp2
    go_loopw [6, 7, 8, 9] (fun x6 _ _ _ wr => (∃ c : Cf, x6 = .int .i64 (if c.beh = true then 1 else 0) ∧ Hid (MS w w.heap.size s c.p c.out c.w wr ∧ c.p ≤ s.size ∧ c.out.length + c.w.length ≤ c.p ∧ Ends s.data.toList c R)) ∨ (x6 = .int .i64 2 ∧ Hid (∃ p o, MS w w.heap.size s p o [] wr ∧ R = .fin o))) (fun x6 _ _ _ wr => leftV s.size x6 (cur wr ⟨w.heap.size, 1, none⟩))
    case atStart => exact Or.inl ⟨⟨false, 0, [], []⟩, rfl, HB.out, Nat.zero_le _, Nat.le_refl _, HE.out⟩
    case round =>
      rcases hrel with ⟨c, rfl, HC⟩ | ⟨rfl, HD⟩
      · obtain ⟨hm, hcp, hcb, hce⟩ := HC.out
        have HM := Lib.hid hm
        have hfine := fine_step (s := s.data.toList) (c := c) (by omega)
        obtain ⟨beh, p, out, ws⟩ := c
        simp only at hm hcp hcb hfine
        have HPL := Lib.hid hm.place
        have hstep := ends_step hce
        have HF := Lib.hid hfine
        cases beh
        · have hO := refOperand_any hm hcp hs6 (by omega)
          have HO := Lib.hid hO
          unfold rp at HO
          have hst : stepM s.data.toList ⟨false, p, out, ws⟩ = operM s.data.toList p out ws := rfl
          rw [hst] at hstep HF
          clear hO hm hce HC hfine hst
          rcases hstep with ⟨c', hg, he⟩ | ⟨q, hg, rfl⟩ | ⟨o, hg, rfl⟩
          · have HFF := Lib.hid (HF.out c' hg)
            have HEE := Lib.hid he
            rw [hg] at HO
            clear hg he HF
            obtain ⟨beh', p', out', ws'⟩ := c'
            go_wp2_with fail
            refine HO.out.mono ?_
            rintro e w2 ⟨rfl, h2⟩
            have H2 := Lib.hid h2; clear h2
            have hf1 : p < p' := HFF.out.1
            have hf2 : p' ≤ s.data.toList.length := HFF.out.2.1
            have hf3 : out'.length + ws'.length ≤ out.length + ws.length + 1 := HFF.out.2.2
            rw [sz] at hf2
            cases beh'
            all_goals
              go_wp2
              go_roundw
              case rel => exact Or.inl ⟨⟨_, p', out', ws'⟩, rfl, H2.out, hf2, by show out'.length + ws'.length ≤ p'; omega, HEE.out⟩
              case measure =>
                have hpl := H2.out.place
                rw [HPL.out, hpl]
                refine Nat.lt_of_le_of_lt (Nat.le_of_eq (leftV_run _ _ _ (by simp))) (Nat.lt_of_lt_of_le ?_ (Nat.le_of_eq (leftV_run _ _ _ (by simp)).symm))
                show s.size + 1 - p' < s.size + 1 - p
                omega
          · rw [hg] at HO
            have HPP : Hid (parseP s.data.toList = ([], q, 1)) := HR.out.symm
            clear hg HF HE
            go_wp2_with fail
            refine HO.out.mono ?_
            rintro e w2 ⟨rfl, h2⟩
            have H2 := Lib.hid h2; clear h2
            have hq0 : (0 : Int) ≤ (q : Int) := by omega
            go_wp2
            go_ret3
            exact ParsePost.of HPP.out ⟨World.ownsRow_nil _ _ _ _, H2.out⟩
          · rw [hg] at HO
            clear hg HF HE
            go_wp2_with fail
            refine HO.out.mono ?_
            rintro e w2 h2
            exact False.elim h2
        · have hO := refBehind_any hm hcp hs6 (by omega)
          have HO := Lib.hid hO
          unfold rp at HO
          have hst : stepM s.data.toList ⟨true, p, out, ws⟩ = behM s.data.toList p out ws := rfl
          rw [hst] at hstep HF
          clear hO hm hce HC hfine hst
          rcases hstep with ⟨c', hg, he⟩ | ⟨q, hg, rfl⟩ | ⟨o, hg, rfl⟩
          · have HFF := Lib.hid (HF.out c' hg)
            have HEE := Lib.hid he
            rw [hg] at HO
            clear hg he HF
            obtain ⟨beh', p', out', ws'⟩ := c'
            go_wp2_with fail
            refine HO.out.mono ?_
            rintro e w2 ⟨rfl, h2⟩
            have H2 := Lib.hid h2; clear h2
            have hf1 : p < p' := HFF.out.1
            have hf2 : p' ≤ s.data.toList.length := HFF.out.2.1
            have hf3 : out'.length + ws'.length ≤ out.length + ws.length + 1 := HFF.out.2.2
            rw [sz] at hf2
            cases beh'
            all_goals
              go_wp2
              go_roundw
              case rel => exact Or.inl ⟨⟨_, p', out', ws'⟩, rfl, H2.out, hf2, by show out'.length + ws'.length ≤ p'; omega, HEE.out⟩
              case measure =>
                have hpl := H2.out.place
                rw [HPL.out, hpl]
                refine Nat.lt_of_le_of_lt (Nat.le_of_eq (leftV_run _ _ _ (by simp))) (Nat.lt_of_lt_of_le ?_ (Nat.le_of_eq (leftV_run _ _ _ (by simp)).symm))
                show s.size + 1 - p' < s.size + 1 - p
                omega
          · rw [hg] at HO
            have HPP : Hid (parseP s.data.toList = ([], q, 1)) := HR.out.symm
            clear hg HF HE
            go_wp2_with fail
            refine HO.out.mono ?_
            rintro e w2 ⟨rfl, h2⟩
            have H2 := Lib.hid h2; clear h2
            have hq0 : (0 : Int) ≤ (q : Int) := by omega
            go_wp2
            go_ret3
            exact ParsePost.of HPP.out ⟨World.ownsRow_nil _ _ _ _, H2.out⟩
          · rw [hg] at HO
            clear hg HF HE
            go_wp2_with fail
            refine HO.out.mono ?_
            rintro e w2 ⟨rfl, h2⟩
            have H2 := Lib.hid h2; clear h2
            go_wp2
            go_roundw
            case rel => exact Or.inr ⟨rfl, by obtain ⟨p', h2⟩ := H2.out; exact ⟨p', o, h2, rfl⟩⟩
            case measure =>
              rw [HPL.out]
              refine Nat.lt_of_le_of_lt (Nat.le_of_eq (leftV_done _ _)) (Nat.lt_of_lt_of_le ?_ (Nat.le_of_eq (leftV_run _ _ _ (by simp)).symm))
              omega
      · obtain ⟨p, o, hm, hRo⟩ := HD.out
        have HM := Lib.hid hm
        obtain ⟨vo, vw, ⟨c0, c1, c2, c3, f1, f2, f3⟩, hbox, ho, hw⟩ := hm.at_
        have hform : ∃ A c, vo = .slice A o.length c := by
          rcases ho.2 with ⟨rfl, h0⟩ | ⟨g, cap, cur, rfl, _⟩
          · exact ⟨none, 0, by rw [h0]⟩
          · exact ⟨_, _, rfl⟩
        obtain ⟨A, c, rfl⟩ := hform
        have HOO := Lib.hid ho
        have HRO := Lib.hid hRo
        clear hbox ho hw hm HD hRo
        by_cases h32 : 32 < o.length
        · have HPP : Hid (parseP s.data.toList = ([], 0, 4)) := by
            rw [← HR.out, HRO.out]; show (if 32 < o.length then _ else _) = _; rw [if_pos h32]
          have h32' : (32 : Int) < o.length := by omega
          go_wp2
          go_ret3
          exact ParsePost.of HPP.out ⟨World.ownsRow_nil _ _ _ _, HM.out.below⟩
        · have HPP : Hid (parseP s.data.toList = (o, 0, 0)) := by
            rw [← HR.out, HRO.out]; show (if 32 < o.length then _ else _) = _; rw [if_neg h32]
          have h32' : decide ((32 : Int) < o.length) = false := decide_eq_false (by omega)
          go_wp2
          go_ret3
          exact ParsePost.of HPP.out ⟨HOO.out, HM.out.below⟩

theorem small_err (l : List UInt8) : 0 ≤ (parseP l).2.2 ∧ (parseP l).2.2 ≤ 4 := by
  rcases parse_err l with h | h | h <;> omega

set_option maxRecDepth 100000 in
set_option maxHeartbeats 2000000 in
theorem parses_law (s : ByteArray) (w : World) (hs : s.size ≤ 140737488355328) (hO : Ops w) (hL : Laid w) :
    Calls Tryd.prog 5 #[.string s] w fun e w' => e = .returned (.bool true) ∧ Below w.heap.size w w' := by
  have HOL : Hid (Ops w ∧ Laid w) := ⟨hO, hL⟩
  have HPA := Lib.hid (parse_any s w hO (by omega))
  have HPB := Lib.hid (fun W => refParse_any s W (by omega))
  have hsm := small_err s.data.toList
  have hlen : (parseP s.data.toList).1.length ≤ 32 := by
    rcases parse_err s.data.toList with h | h | h
    · obtain ⟨_, t, _, h1, h2, _⟩ := parse_sound h
      rw [h1]; exact h2
    · rw [parse_none (by omega)]; simp
    · rw [parse_none (by omega)]; simp
  obtain ⟨cs, q, f, hP⟩ : ∃ cs q f, parseP s.data.toList = (cs, q, f) := ⟨_, _, _, rfl⟩
  have HP := Lib.hid hP
  rw [hP] at hsm hlen
  obtain ⟨hf0, hf1⟩ := hsm
  simp only at hf0 hf1 hlen
  clear hO hL hP
  go_enter Tryd.func5, Tryd.ntmps5
  go_wp2_with fail
  refine HPA.out.mono ?_
  rintro e w1 ⟨v1, rfl, h1⟩
  rw [HP.out] at h1 ⊢
  have H1 := Lib.hid h1; clear h1
  go_wp2_with fail
  refine (HPB.out _).mono ?_
  rintro e w2 ⟨v2, rfl, h2⟩
  rw [HP.out] at h2 ⊢
  have H2 := Lib.hid h2; clear h2
  have HB2 := Lib.hid (H1.out.below.trans (H2.out.below.mono H1.out.below.size))
  have HW := Lib.hid (wakes_any w2 (HOL.out.1.below HB2.out) (HOL.out.2.below HB2.out))
  go_wp2_with fail
  refine HW.out.mono ?_
  rintro e w3 ⟨rfl, hb3⟩
  have HB3 := Lib.hid (HB2.out.trans (hb3.mono HB2.out.size))
  have HR1 := Lib.hid ((H1.out.rd.below H2.out.below).below hb3)
  have HR2 := Lib.hid (H2.out.rd.below hb3); clear hb3
  go_wp2_with fail
  refine (same_any _ _ _ _ w3 HR1.out HR2.out (by omega)).mono ?_
  rintro e w4 ⟨rfl, n, rfl⟩
  rw [decide_eq_true rfl]
  go_wp2
  go_ret
  exact ⟨rfl, ⟨HB3.out.os, HB3.out.tape, HB3.out.output, HB3.out.size, HB3.out.block⟩⟩
end
end Go.Proofs.YtfgocdeaanalgaaDoor
