/- Own texts, joined: H9. -/
import Derived.Test.YtjgfkmakfdepcaaGreatDoorP24
import Derived.Test.YtjgfkmakfdepcaaGreatDoorP26
namespace Go.Proofs.YtjgfkmakfdepcaaGreatDoor

section
open Go.RowKit

/-- what a step of the machine leaves of the reader, where an operand may stand -/
def OPost (w0 : World) (g : Nat) (s : ByteArray) (r : Sp) (e : Ending) (w' : World) : Prop :=
  match r with
  | .go c => e = .returned (.tuple #[.int .i64 (-1), .bool c.beh]) ∧ MS w0 g s c.p c.out c.w w'
  | .bad q => e = .returned (.tuple #[.int .i64 q, .bool false]) ∧ Below w0.heap.size w0 w'
  | .fin _ => False
theorem box_at {w : World} {g : Nat} {s : ByteArray} {p : Nat} {vo vw : Value} (hbox : w.heap[g]? = some (.cells #[.string s, .int .i64 p, vo, vw] 133 (0, 0))) :
    w.cell? ⟨g, 0, none⟩ = some (.string s) ∧ w.cell? ⟨g, 1, none⟩ = some (.int .i64 p) ∧ w.cell? ⟨g, 2, none⟩ = some vo ∧ w.cell? ⟨g, 3, none⟩ = some vw ∧ w.frozen? ⟨g, 1, none⟩ = false ∧ w.frozen? ⟨g, 2, none⟩ = false ∧ w.frozen? ⟨g, 3, none⟩ = false :=
  ⟨(cell_of_row w g 0 _ _ _ hbox).trans rfl, (cell_of_row w g 1 _ _ _ hbox).trans rfl, (cell_of_row w g 2 _ _ _ hbox).trans rfl, (cell_of_row w g 3 _ _ _ hbox).trans rfl, frozen_of_row w g 1 _ _ hbox, frozen_of_row w g 2 _ _ hbox, frozen_of_row w g 3 _ _ hbox⟩
theorem box_setAt {w0 w : World} {g : Nat} {s : ByteArray} {p p' : Nat} {cs : List CM} {ws : List Wt} {vo vw : Value} (hbox : w.heap[g]? = some (.cells #[.string s, .int .i64 p, vo, vw] 133 (0, 0)))
    (ho : w.ownsRow w0.heap.size 93 3 vo cs.length (flat cs)) (hw : w.ownsRow w0.heap.size 170 2 vw ws.length (flatW ws.reverse)) (q : Int) (hq : q = (p' : Int)) :
    (w.setCell ⟨g, 1, none⟩ (.int .i64 q)).heap[g]? = some (.cells #[.string s, .int .i64 p', vo, vw] 133 (0, 0)) ∧ (w.setCell ⟨g, 1, none⟩ (.int .i64 q)).ownsRow w0.heap.size 93 3 vo cs.length (flat cs) ∧
      (w.setCell ⟨g, 1, none⟩ (.int .i64 q)).ownsRow w0.heap.size 170 2 vw ws.length (flatW ws.reverse) := by
  subst hq
  refine ⟨?_, ownsRow_setCell_other ho (own_ne2 ho hbox reader_cell) _, ownsRow_setCell_other hw (own_ne2 hw hbox reader_open) _⟩
  rw [heap_setCell_same w g 1 _ _ _ hbox]; rfl
set_option maxRecDepth 100000 in
set_option maxHeartbeats 1000000 in
theorem operand_end {w0 w : World} {g : Nat} {s : ByteArray} {cs : List CM} {ws : List Wt} (h : MS w0 g s s.size cs ws w) :
    Calls Tryz.prog 90 #[rp g] w (OPost w0 g s (.bad s.size)) := by
  have HM := Lib.hid h
  obtain ⟨vo, vw, ⟨c0, c1, c2, c3, f1, f2, f3⟩, hbox, ho, hw⟩ := h.at_
  clear hbox ho hw h
  unfold rp
  go_enter Tryz.func90, Tryz.ntmps90
  go_wp2
  go_quiet (fail)
  go_wp2
  go_ret2
  exact ⟨rfl, (HM.out.drewN _).below⟩

set_option maxRecDepth 100000 in
set_option maxHeartbeats 8000000 in
theorem operand_45 {w0 w : World} {g : Nat} {s : ByteArray} {p : Nat} {cs : List CM} {ws : List Wt} (h : MS w0 g s p cs ws w) (hp : p < s.size) (hs : s.size ≤ 600) (hb : cs.length + ws.length ≤ 600) (h45 : nx s.data.toList p = 45) :
    Calls Tryz.prog 90 #[rp g] w (OPost w0 g s (operM s.data.toList p cs ws)) := by
  have HM0 := Lib.hid h
  obtain ⟨X, hX⟩ : ∃ X : ByteArray, X.data.toList = wordP s.data.toList p := ⟨⟨(wordP s.data.toList p).toArray⟩, rfl⟩
  have hXb : bstr (wordP s.data.toList p) = .string X := by rw [← hX]; rfl
  have hXl : p + X.size ≤ s.size := by
    have := word_le s.data.toList p (by rw [← Lib.size_eq]; omega)
    rw [← hX, ← Lib.size_eq, ← Lib.size_eq] at this; exact this
  have HXB := Lib.hid hXb; have HX := Lib.hid hX
  obtain ⟨c, hc⟩ : ∃ c, nx s.data.toList p = c := ⟨_, rfl⟩
  have hsp : s[p] = c := by rw [← lst_at s p hp, hc]
  have HC := Lib.hid hc; have HSP := Lib.hid hsp
  have hne : ((p : Int) == (s.size : Int)) = false := beq_eq_false_iff_ne.2 (by omega)
  obtain ⟨cb, hcb⟩ : ∃ cb : Bool, (nx s.data.toList (p + X.size) == 40) = cb := ⟨_, rfl⟩
  have HCB := Lib.hid hcb
  have hways : (∃ hlt : p + X.size < s.size, ((s[p + X.size].toNat : Int) == 40) = cb) ∨ (decide ((p : Int) + (X.size : Int) < s.size) = false ∧ cb = false) := by
    by_cases hlt : p + X.size < s.size
    · refine Or.inl ⟨hlt, ?_⟩
      rw [← hcb, ← lst_at s _ hlt]
      cases hq : nx s.data.toList (p + X.size) == 40
      · exact byte_not (k := 40) (by decide) (beq_eq_false_iff_ne.1 hq)
      · exact byte_is (k := 40) (by decide) (beq_iff_eq.1 hq)
    · refine Or.inr ⟨decide_eq_false (by omega), ?_⟩
      rw [← hcb, nx_end (by rw [← Lib.size_eq]; omega)]; rfl
  obtain ⟨vo, vw, ⟨c0, c1, c2, c3, f1, f2, f3⟩, hbox, ho, hw⟩ := h.at_
  clear hbox ho hw h hX hXb hc hsp hcb
  unfold rp
  go_enter Tryz.func90, Tryz.ntmps90
  go_wp2
  go_quiet (fail)
  go_wp2
  go_quiet (fail)
  rw [HSP.out]
  go_wp2_with fail
  refine (refWord_any (by first | exact HM0.out.drewN _ | exact (HM0.out.drewN _).drewN _) p (by omega) hs).mono ?_
  rintro e w1 ⟨rfl, rfl⟩
  rw [HXB.out]
  go_wp2
  go_cut [6] from 37 (fun s6 wc => s6 = .bool cb ∧ Hid (MS w0 g s p cs ws wc))
  case first =>
    rcases hways with ⟨hlt, ht⟩ | ⟨ht, rfl⟩
    · have hlt' : (p : Int) + (X.size : Int) < s.size := by omega
      have hi0 : (0 : Int) ≤ (p : Int) + (X.size : Int) := by omega
      have hwr : IntKind.i64.wrap ((p : Int) + (X.size : Int)) = (p : Int) + (X.size : Int) := IntWalk.i64_in _ (by omega)
      have hnat : ((p : Int) + (X.size : Int)).toNat = p + X.size := by omega
      go_quiet (fail)
      go_wp2
      go_meet
      case rel => exact ⟨rfl, by first | exact HM0.out.drewN _ | exact (HM0.out.drewN _).drewN _ | exact ((HM0.out.drewN _).drewN _).drewN _⟩
    · go_quiet (fail)
      go_wp2
      go_meet
      case rel => exact ⟨rfl, by first | exact HM0.out.drewN _ | exact (HM0.out.drewN _).drewN _ | exact ((HM0.out.drewN _).drewN _).drewN _⟩
  case rest =>
    obtain ⟨rfl, HM⟩ := hcut
    clear c0 c1 c2 c3 f1 f2 f3 hways HM0
    obtain ⟨vo, vw, ⟨c0, c1, c2, c3, f1, f2, f3⟩, hbox, ho, hw⟩ := HM.out.at_
    have HBX := Lib.hid hbox; have HOO := Lib.hid ho; have HWW := Lib.hid hw
    clear hbox ho hw
    have HP : Hid (operM s.data.toList p cs ws = .go ⟨false, p + 1, cs, (7, 6) :: ws⟩) := by
      unfold operM; rw [if_pos h45]; exact rfl
    obtain rfl : c = 45 := by rw [← HC.out]; exact h45
    clear h45
    obtain ⟨i1, hi1, hz0, hz1, hz2⟩ := info_parts Tryz.infoOpen
    have HI := Lib.hid hi1; have HZ0 := Lib.hid hz0; have HZ1 := Lib.hid hz1; have HZ2 := Lib.hid hz2
    have HON := Lib.hid (HWW.out.alloc (.cells #[.int .i64 7, .int .i64 6] 170))
    have HSZ : Hid (w0.heap.size ≤ (wc.alloc (.cells #[.int .i64 7, .int .i64 6] 170)).heap.size) := by
      have := HM.out.size
      show _ ≤ _; simp at this ⊢; omega
    clear hi1 hz0 hz1 hz2
    go_wp2_with (at_builtin; refine wpList_append_lies _ rfl _ _ 131 rfl w0.heap.size 170 i1 _ 2 16 Tryz.unOpen HI.out HZ0.out HZ1.out HZ2.out rfl (by decide) vw ws.length (flatW ws.reverse) rfl HON.out ⟨wc.heap.size, 0, none⟩ 1 1 (waitV (7, 6)) rfl rfl (World.news_of_block (cs := #[.int .i64 7, .int .i64 6]) (t := 170) (fr := (0, 0)) (heap_alloc_new wc _)) (flatW_vals _) (by decide) (by unfold maxLen; omega) (by omega) HSZ.out (wc.heap.size + 1) (by simp) ?_)
    intro gg cap2 w5 hown2 hgrow2 hat2 hlt2
    have k1 := far_cell (j := 3) (u := vw) HBX.out rfl (own_ne2 HWW.out HBX.out reader_open) hgrow2
    have k2 := far_out (j := 3) HBX.out (own_ne2 HWW.out HBX.out reader_open) hgrow2
    have d1 := far_cell (j := 1) (u := .int .i64 p) HBX.out rfl (own_ne2 HWW.out HBX.out reader_open) hgrow2
    have d2 := far_out (j := 1) HBX.out (own_ne2 HWW.out HBX.out reader_open) hgrow2
    have HM6 := Lib.hid (HM.out.waitNew HBX.out HOO.out HWW.out (7, 6) ((Below.refl _ _).alloc (Nat.le_refl _) _) hown2 hgrow2)
    clear hown2 hgrow2 hat2 hlt2 HBX HOO HWW HON HSZ HM c0 c1 c2 c3 f1 f2 f3
    go_wp2
    generalize w5.setCell ⟨g, 3, none⟩ (.slice (some ⟨gg, 0, none⟩) (ws.length + 1) cap2) = W at HM6 ⊢
    go_ret2
    rw [HP.out]
    exact ⟨rfl, HM6.out.setAt (p' := p + 1) ((p : Int) + 1) (by omega)⟩

set_option maxRecDepth 100000 in
set_option maxHeartbeats 8000000 in
theorem operand_33 {w0 w : World} {g : Nat} {s : ByteArray} {p : Nat} {cs : List CM} {ws : List Wt} (h : MS w0 g s p cs ws w) (hp : p < s.size) (hs : s.size ≤ 600) (hb : cs.length + ws.length ≤ 600) (h33 : nx s.data.toList p = 33) :
    Calls Tryz.prog 90 #[rp g] w (OPost w0 g s (operM s.data.toList p cs ws)) := by
  have HM0 := Lib.hid h
  obtain ⟨X, hX⟩ : ∃ X : ByteArray, X.data.toList = wordP s.data.toList p := ⟨⟨(wordP s.data.toList p).toArray⟩, rfl⟩
  have hXb : bstr (wordP s.data.toList p) = .string X := by rw [← hX]; rfl
  have hXl : p + X.size ≤ s.size := by
    have := word_le s.data.toList p (by rw [← Lib.size_eq]; omega)
    rw [← hX, ← Lib.size_eq, ← Lib.size_eq] at this; exact this
  have HXB := Lib.hid hXb; have HX := Lib.hid hX
  obtain ⟨c, hc⟩ : ∃ c, nx s.data.toList p = c := ⟨_, rfl⟩
  have hsp : s[p] = c := by rw [← lst_at s p hp, hc]
  have HC := Lib.hid hc; have HSP := Lib.hid hsp
  have hne : ((p : Int) == (s.size : Int)) = false := beq_eq_false_iff_ne.2 (by omega)
  obtain ⟨cb, hcb⟩ : ∃ cb : Bool, (nx s.data.toList (p + X.size) == 40) = cb := ⟨_, rfl⟩
  have HCB := Lib.hid hcb
  have hways : (∃ hlt : p + X.size < s.size, ((s[p + X.size].toNat : Int) == 40) = cb) ∨ (decide ((p : Int) + (X.size : Int) < s.size) = false ∧ cb = false) := by
    by_cases hlt : p + X.size < s.size
    · refine Or.inl ⟨hlt, ?_⟩
      rw [← hcb, ← lst_at s _ hlt]
      cases hq : nx s.data.toList (p + X.size) == 40
      · exact byte_not (k := 40) (by decide) (beq_eq_false_iff_ne.1 hq)
      · exact byte_is (k := 40) (by decide) (beq_iff_eq.1 hq)
    · refine Or.inr ⟨decide_eq_false (by omega), ?_⟩
      rw [← hcb, nx_end (by rw [← Lib.size_eq]; omega)]; rfl
  obtain ⟨vo, vw, ⟨c0, c1, c2, c3, f1, f2, f3⟩, hbox, ho, hw⟩ := h.at_
  clear hbox ho hw h hX hXb hc hsp hcb
  unfold rp
  go_enter Tryz.func90, Tryz.ntmps90
  go_wp2
  go_quiet (fail)
  go_wp2
  go_quiet (fail)
  rw [HSP.out]
  go_wp2_with fail
  refine (refWord_any (by first | exact HM0.out.drewN _ | exact (HM0.out.drewN _).drewN _) p (by omega) hs).mono ?_
  rintro e w1 ⟨rfl, rfl⟩
  rw [HXB.out]
  go_wp2
  go_cut [6] from 37 (fun s6 wc => s6 = .bool cb ∧ Hid (MS w0 g s p cs ws wc))
  case first =>
    rcases hways with ⟨hlt, ht⟩ | ⟨ht, rfl⟩
    · have hlt' : (p : Int) + (X.size : Int) < s.size := by omega
      have hi0 : (0 : Int) ≤ (p : Int) + (X.size : Int) := by omega
      have hwr : IntKind.i64.wrap ((p : Int) + (X.size : Int)) = (p : Int) + (X.size : Int) := IntWalk.i64_in _ (by omega)
      have hnat : ((p : Int) + (X.size : Int)).toNat = p + X.size := by omega
      go_quiet (fail)
      go_wp2
      go_meet
      case rel => exact ⟨rfl, by first | exact HM0.out.drewN _ | exact (HM0.out.drewN _).drewN _ | exact ((HM0.out.drewN _).drewN _).drewN _⟩
    · go_quiet (fail)
      go_wp2
      go_meet
      case rel => exact ⟨rfl, by first | exact HM0.out.drewN _ | exact (HM0.out.drewN _).drewN _ | exact ((HM0.out.drewN _).drewN _).drewN _⟩
  case rest =>
    obtain ⟨rfl, HM⟩ := hcut
    clear c0 c1 c2 c3 f1 f2 f3 hways HM0
    obtain ⟨vo, vw, ⟨c0, c1, c2, c3, f1, f2, f3⟩, hbox, ho, hw⟩ := HM.out.at_
    have HBX := Lib.hid hbox; have HOO := Lib.hid ho; have HWW := Lib.hid hw
    clear hbox ho hw
    have HP : Hid (operM s.data.toList p cs ws = .go ⟨false, p + 1, cs, (8, 6) :: ws⟩) := by
      unfold operM; rw [if_neg (by rw [h33]; decide), if_pos h33]; exact rfl
    obtain rfl : c = 33 := by rw [← HC.out]; exact h33
    clear h33
    obtain ⟨i1, hi1, hz0, hz1, hz2⟩ := info_parts Tryz.infoOpen
    have HI := Lib.hid hi1; have HZ0 := Lib.hid hz0; have HZ1 := Lib.hid hz1; have HZ2 := Lib.hid hz2
    have HON := Lib.hid (HWW.out.alloc (.cells #[.int .i64 8, .int .i64 6] 170))
    have HSZ : Hid (w0.heap.size ≤ (wc.alloc (.cells #[.int .i64 8, .int .i64 6] 170)).heap.size) := by
      have := HM.out.size
      show _ ≤ _; simp at this ⊢; omega
    clear hi1 hz0 hz1 hz2
    go_wp2_with (at_builtin; refine wpList_append_lies _ rfl _ _ 131 rfl w0.heap.size 170 i1 _ 2 16 Tryz.unOpen HI.out HZ0.out HZ1.out HZ2.out rfl (by decide) vw ws.length (flatW ws.reverse) rfl HON.out ⟨wc.heap.size, 0, none⟩ 1 1 (waitV (8, 6)) rfl rfl (World.news_of_block (cs := #[.int .i64 8, .int .i64 6]) (t := 170) (fr := (0, 0)) (heap_alloc_new wc _)) (flatW_vals _) (by decide) (by unfold maxLen; omega) (by omega) HSZ.out (wc.heap.size + 1) (by simp) ?_)
    intro gg cap2 w5 hown2 hgrow2 hat2 hlt2
    have k1 := far_cell (j := 3) (u := vw) HBX.out rfl (own_ne2 HWW.out HBX.out reader_open) hgrow2
    have k2 := far_out (j := 3) HBX.out (own_ne2 HWW.out HBX.out reader_open) hgrow2
    have d1 := far_cell (j := 1) (u := .int .i64 p) HBX.out rfl (own_ne2 HWW.out HBX.out reader_open) hgrow2
    have d2 := far_out (j := 1) HBX.out (own_ne2 HWW.out HBX.out reader_open) hgrow2
    have HM6 := Lib.hid (HM.out.waitNew HBX.out HOO.out HWW.out (8, 6) ((Below.refl _ _).alloc (Nat.le_refl _) _) hown2 hgrow2)
    clear hown2 hgrow2 hat2 hlt2 HBX HOO HWW HON HSZ HM c0 c1 c2 c3 f1 f2 f3
    go_wp2
    generalize w5.setCell ⟨g, 3, none⟩ (.slice (some ⟨gg, 0, none⟩) (ws.length + 1) cap2) = W at HM6 ⊢
    go_ret2
    rw [HP.out]
    exact ⟨rfl, HM6.out.setAt (p' := p + 1) ((p : Int) + 1) (by omega)⟩

set_option maxRecDepth 100000 in
set_option maxHeartbeats 8000000 in
theorem operand_40 {w0 w : World} {g : Nat} {s : ByteArray} {p : Nat} {cs : List CM} {ws : List Wt} (h : MS w0 g s p cs ws w) (hp : p < s.size) (hs : s.size ≤ 600) (hb : cs.length + ws.length ≤ 600) (h40 : nx s.data.toList p = 40) :
    Calls Tryz.prog 90 #[rp g] w (OPost w0 g s (operM s.data.toList p cs ws)) := by
  have HM0 := Lib.hid h
  obtain ⟨X, hX⟩ : ∃ X : ByteArray, X.data.toList = wordP s.data.toList p := ⟨⟨(wordP s.data.toList p).toArray⟩, rfl⟩
  have hXb : bstr (wordP s.data.toList p) = .string X := by rw [← hX]; rfl
  have hXl : p + X.size ≤ s.size := by
    have := word_le s.data.toList p (by rw [← Lib.size_eq]; omega)
    rw [← hX, ← Lib.size_eq, ← Lib.size_eq] at this; exact this
  have HXB := Lib.hid hXb; have HX := Lib.hid hX
  obtain ⟨c, hc⟩ : ∃ c, nx s.data.toList p = c := ⟨_, rfl⟩
  have hsp : s[p] = c := by rw [← lst_at s p hp, hc]
  have HC := Lib.hid hc; have HSP := Lib.hid hsp
  have hne : ((p : Int) == (s.size : Int)) = false := beq_eq_false_iff_ne.2 (by omega)
  obtain ⟨cb, hcb⟩ : ∃ cb : Bool, (nx s.data.toList (p + X.size) == 40) = cb := ⟨_, rfl⟩
  have HCB := Lib.hid hcb
  have hways : (∃ hlt : p + X.size < s.size, ((s[p + X.size].toNat : Int) == 40) = cb) ∨ (decide ((p : Int) + (X.size : Int) < s.size) = false ∧ cb = false) := by
    by_cases hlt : p + X.size < s.size
    · refine Or.inl ⟨hlt, ?_⟩
      rw [← hcb, ← lst_at s _ hlt]
      cases hq : nx s.data.toList (p + X.size) == 40
      · exact byte_not (k := 40) (by decide) (beq_eq_false_iff_ne.1 hq)
      · exact byte_is (k := 40) (by decide) (beq_iff_eq.1 hq)
    · refine Or.inr ⟨decide_eq_false (by omega), ?_⟩
      rw [← hcb, nx_end (by rw [← Lib.size_eq]; omega)]; rfl
  obtain ⟨vo, vw, ⟨c0, c1, c2, c3, f1, f2, f3⟩, hbox, ho, hw⟩ := h.at_
  clear hbox ho hw h hX hXb hc hsp hcb
  unfold rp
  go_enter Tryz.func90, Tryz.ntmps90
  go_wp2
  go_quiet (fail)
  go_wp2
  go_quiet (fail)
  rw [HSP.out]
  go_wp2_with fail
  refine (refWord_any (by first | exact HM0.out.drewN _ | exact (HM0.out.drewN _).drewN _) p (by omega) hs).mono ?_
  rintro e w1 ⟨rfl, rfl⟩
  rw [HXB.out]
  go_wp2
  go_cut [6] from 37 (fun s6 wc => s6 = .bool cb ∧ Hid (MS w0 g s p cs ws wc))
  case first =>
    rcases hways with ⟨hlt, ht⟩ | ⟨ht, rfl⟩
    · have hlt' : (p : Int) + (X.size : Int) < s.size := by omega
      have hi0 : (0 : Int) ≤ (p : Int) + (X.size : Int) := by omega
      have hwr : IntKind.i64.wrap ((p : Int) + (X.size : Int)) = (p : Int) + (X.size : Int) := IntWalk.i64_in _ (by omega)
      have hnat : ((p : Int) + (X.size : Int)).toNat = p + X.size := by omega
      go_quiet (fail)
      go_wp2
      go_meet
      case rel => exact ⟨rfl, by first | exact HM0.out.drewN _ | exact (HM0.out.drewN _).drewN _ | exact ((HM0.out.drewN _).drewN _).drewN _⟩
    · go_quiet (fail)
      go_wp2
      go_meet
      case rel => exact ⟨rfl, by first | exact HM0.out.drewN _ | exact (HM0.out.drewN _).drewN _ | exact ((HM0.out.drewN _).drewN _).drewN _⟩
  case rest =>
    obtain ⟨rfl, HM⟩ := hcut
    clear c0 c1 c2 c3 f1 f2 f3 hways HM0
    obtain ⟨vo, vw, ⟨c0, c1, c2, c3, f1, f2, f3⟩, hbox, ho, hw⟩ := HM.out.at_
    have HBX := Lib.hid hbox; have HOO := Lib.hid ho; have HWW := Lib.hid hw
    clear hbox ho hw
    have HP : Hid (operM s.data.toList p cs ws = .go ⟨false, p + 1, cs, (0, 0) :: ws⟩) := by
      unfold operM; rw [if_neg (by rw [h40]; decide), if_neg (by rw [h40]; decide), if_pos h40]; exact rfl
    obtain rfl : c = 40 := by rw [← HC.out]; exact h40
    clear h40
    obtain ⟨i1, hi1, hz0, hz1, hz2⟩ := info_parts Tryz.infoOpen
    have HI := Lib.hid hi1; have HZ0 := Lib.hid hz0; have HZ1 := Lib.hid hz1; have HZ2 := Lib.hid hz2
    have HON := Lib.hid (HWW.out.alloc (.cells #[.int .i64 0, .int .i64 0] 170))
    have HSZ : Hid (w0.heap.size ≤ (wc.alloc (.cells #[.int .i64 0, .int .i64 0] 170)).heap.size) := by
      have := HM.out.size
      show _ ≤ _; simp at this ⊢; omega
    clear hi1 hz0 hz1 hz2
    go_wp2_with (at_builtin; refine wpList_append_lies _ rfl _ _ 131 rfl w0.heap.size 170 i1 _ 2 16 Tryz.unOpen HI.out HZ0.out HZ1.out HZ2.out rfl (by decide) vw ws.length (flatW ws.reverse) rfl HON.out ⟨wc.heap.size, 0, none⟩ 1 1 (waitV (0, 0)) rfl rfl (World.news_of_block (cs := #[.int .i64 0, .int .i64 0]) (t := 170) (fr := (0, 0)) (heap_alloc_new wc _)) (flatW_vals _) (by decide) (by unfold maxLen; omega) (by omega) HSZ.out (wc.heap.size + 1) (by simp) ?_)
    intro gg cap2 w5 hown2 hgrow2 hat2 hlt2
    have k1 := far_cell (j := 3) (u := vw) HBX.out rfl (own_ne2 HWW.out HBX.out reader_open) hgrow2
    have k2 := far_out (j := 3) HBX.out (own_ne2 HWW.out HBX.out reader_open) hgrow2
    have d1 := far_cell (j := 1) (u := .int .i64 p) HBX.out rfl (own_ne2 HWW.out HBX.out reader_open) hgrow2
    have d2 := far_out (j := 1) HBX.out (own_ne2 HWW.out HBX.out reader_open) hgrow2
    have HM6 := Lib.hid (HM.out.waitNew HBX.out HOO.out HWW.out (0, 0) ((Below.refl _ _).alloc (Nat.le_refl _) _) hown2 hgrow2)
    clear hown2 hgrow2 hat2 hlt2 HBX HOO HWW HON HSZ HM c0 c1 c2 c3 f1 f2 f3
    go_wp2
    generalize w5.setCell ⟨g, 3, none⟩ (.slice (some ⟨gg, 0, none⟩) (ws.length + 1) cap2) = W at HM6 ⊢
    go_ret2
    rw [HP.out]
    exact ⟨rfl, HM6.out.setAt (p' := p + 1) ((p : Int) + 1) (by omega)⟩

end

section
open Go.RowKit

set_option maxRecDepth 100000 in
set_option maxHeartbeats 8000000 in
theorem operand_false {w0 w : World} {g : Nat} {s : ByteArray} {p : Nat} {cs : List CM} {ws : List Wt} (h : MS w0 g s p cs ws w) (hp : p < s.size) (hs : s.size ≤ 600) (hb : cs.length + ws.length ≤ 600) (n45 : nx s.data.toList p ≠ 45) (n33 : nx s.data.toList p ≠ 33) (n40 : nx s.data.toList p ≠ 40) (ndd : isD (nx s.data.toList p) = false) (hW : wordP s.data.toList p = wFalse) :
    Calls Tryz.prog 90 #[rp g] w (OPost w0 g s (operM s.data.toList p cs ws)) := by
  have HM0 := Lib.hid h
  obtain ⟨X, hX⟩ : ∃ X : ByteArray, X.data.toList = wordP s.data.toList p := ⟨⟨(wordP s.data.toList p).toArray⟩, rfl⟩
  have hXb : bstr (wordP s.data.toList p) = .string X := by rw [← hX]; rfl
  have hXl : p + X.size ≤ s.size := by
    have := word_le s.data.toList p (by rw [← Lib.size_eq]; omega)
    rw [← hX, ← Lib.size_eq, ← Lib.size_eq] at this; exact this
  have HXB := Lib.hid hXb; have HX := Lib.hid hX
  obtain ⟨c, hc⟩ : ∃ c, nx s.data.toList p = c := ⟨_, rfl⟩
  have hsp : s[p] = c := by rw [← lst_at s p hp, hc]
  have HC := Lib.hid hc; have HSP := Lib.hid hsp
  have hne : ((p : Int) == (s.size : Int)) = false := beq_eq_false_iff_ne.2 (by omega)
  obtain ⟨cb, hcb⟩ : ∃ cb : Bool, (nx s.data.toList (p + X.size) == 40) = cb := ⟨_, rfl⟩
  have HCB := Lib.hid hcb
  have hways : (∃ hlt : p + X.size < s.size, ((s[p + X.size].toNat : Int) == 40) = cb) ∨ (decide ((p : Int) + (X.size : Int) < s.size) = false ∧ cb = false) := by
    by_cases hlt : p + X.size < s.size
    · refine Or.inl ⟨hlt, ?_⟩
      rw [← hcb, ← lst_at s _ hlt]
      cases hq : nx s.data.toList (p + X.size) == 40
      · exact byte_not (k := 40) (by decide) (beq_eq_false_iff_ne.1 hq)
      · exact byte_is (k := 40) (by decide) (beq_iff_eq.1 hq)
    · refine Or.inr ⟨decide_eq_false (by omega), ?_⟩
      rw [← hcb, nx_end (by rw [← Lib.size_eq]; omega)]; rfl
  obtain ⟨vo, vw, ⟨c0, c1, c2, c3, f1, f2, f3⟩, hbox, ho, hw⟩ := h.at_
  clear hbox ho hw h hX hXb hc hsp hcb
  unfold rp
  go_enter Tryz.func90, Tryz.ntmps90
  go_wp2
  go_quiet (fail)
  go_wp2
  go_quiet (fail)
  rw [HSP.out]
  go_wp2_with fail
  refine (refWord_any (by first | exact HM0.out.drewN _ | exact (HM0.out.drewN _).drewN _) p (by omega) hs).mono ?_
  rintro e w1 ⟨rfl, rfl⟩
  rw [HXB.out]
  go_wp2
  go_cut [6] from 37 (fun s6 wc => s6 = .bool cb ∧ Hid (MS w0 g s p cs ws wc))
  case first =>
    rcases hways with ⟨hlt, ht⟩ | ⟨ht, rfl⟩
    · have hlt' : (p : Int) + (X.size : Int) < s.size := by omega
      have hi0 : (0 : Int) ≤ (p : Int) + (X.size : Int) := by omega
      have hwr : IntKind.i64.wrap ((p : Int) + (X.size : Int)) = (p : Int) + (X.size : Int) := IntWalk.i64_in _ (by omega)
      have hnat : ((p : Int) + (X.size : Int)).toNat = p + X.size := by omega
      go_quiet (fail)
      go_wp2
      go_meet
      case rel => exact ⟨rfl, by first | exact HM0.out.drewN _ | exact (HM0.out.drewN _).drewN _ | exact ((HM0.out.drewN _).drewN _).drewN _⟩
    · go_quiet (fail)
      go_wp2
      go_meet
      case rel => exact ⟨rfl, by first | exact HM0.out.drewN _ | exact (HM0.out.drewN _).drewN _ | exact ((HM0.out.drewN _).drewN _).drewN _⟩
  case rest =>
    obtain ⟨rfl, HM⟩ := hcut
    clear c0 c1 c2 c3 f1 f2 f3 hways HM0
    obtain ⟨vo, vw, ⟨c0, c1, c2, c3, f1, f2, f3⟩, hbox, ho, hw⟩ := HM.out.at_
    have HBX := Lib.hid hbox; have HOO := Lib.hid ho; have HWW := Lib.hid hw
    clear hbox ho hw
    have h45 : c ≠ 45 := by rw [← HC.out]; exact n45
    have h33 : c ≠ 33 := by rw [← HC.out]; exact n33
    have h40 : c ≠ 40 := by rw [← HC.out]; exact n40
    have hd : ¬ isD c = true := by rw [← HC.out, ndd]; simp
    clear n45 n33 n40 ndd
    have t45 : ((c.toNat : Int) == 45) = false := byte_not (k := 45) (by decide) h45
    have t33 : ((c.toNat : Int) == 33) = false := byte_not (k := 33) (by decide) h33
    have t40 : ((c.toNat : Int) == 40) = false := byte_not (k := 40) (by decide) h40
    have hdt : decide ((48 : Int) ≤ c.toNat) = false ∨ ((48 : Int) ≤ c.toNat ∧ decide ((c.toNat : Int) ≤ 57) = false) := by
      have hd2 := decide_eq_false_iff_not.1 ((isD_cases c).symm.trans (by simpa using hd))
      by_cases ha : (48 : Int) ≤ c.toNat
      · exact Or.inr ⟨ha, decide_eq_false (fun e => hd2 ⟨ha, e⟩)⟩
      · exact Or.inl (decide_eq_false ha)
    have HP : Hid (operM s.data.toList p cs ws = wordM s.data.toList p cs ws X.data.toList) := by
      unfold operM; rw [HC.out, if_neg h45, if_neg h33, if_neg h40, if_neg hd, HX.out]; exact rfl
    have HCB2 : Hid ((nx s.data.toList (p + X.data.toList.length) = 40) = (cb = true)) := by
      rw [← Lib.size_eq, ← HCB.out]; exact propext (Iff.intro (fun h => by rw [h]; rfl) (fun h => beq_iff_eq.1 h))
    clear h45 h33 h40 hd HXB HCB HC HSP
    have hXs : X.size ≤ 600 := by omega
    have hXe : X.data.toList = [102, 97, 108, 115, 101] := by rw [HX.out, hW]; rfl
    clear HX hW
    have b_re : (X.toList == [114, 101]) = false := by rw [is_list, hXe]; decide
    have b_im : (X.toList == [105, 109]) = false := by rw [is_list, hXe]; decide
    have b_in : (X.toList == [105, 110]) = false := by rw [is_list, hXe]; decide
    have b_true : (X.toList == [116, 114, 117, 101]) = false := by rw [is_list, hXe]; decide
    have b_false : (X.toList == [102, 97, 108, 115, 101]) = true := by rw [is_list, hXe]; decide
    rcases hdt with hd5 | ⟨hd5, hd6⟩
    all_goals
      have HP2 : Hid (operM s.data.toList p cs ws = .go ⟨true, p + 5, cs ++ [opC 4], ws⟩) := by
        rw [HP.out, hXe]
        show wordM s.data.toList p cs ws wFalse = _
        unfold wordM
        rw [if_neg (fun h => absurd h.1 (by decide)), if_neg (fun h => absurd h.1 (by decide)), if_neg (fun h => absurd h.1 (by decide)), if_neg (by decide), if_pos rfl]
      clear hXe HP
      have HP := HP2

      obtain ⟨i1, hi1, hz0, hz1, hz2⟩ := info_parts Tryz.infoCell
      have HI := Lib.hid hi1; have HZ0 := Lib.hid hz0; have HZ1 := Lib.hid hz1; have HZ2 := Lib.hid hz2
      have HON := Lib.hid (HOO.out.alloc (.cells #[.int .i64 4, .int .i64 0, .string ⟨#[]⟩] 93))
      have HNW : Hid ((wc.alloc (.cells #[.int .i64 4, .int .i64 0, .string ⟨#[]⟩] 93)).heap[wc.heap.size]? = some (.cells #[.int .i64 4, .int .i64 0, .string ⟨#[]⟩] 93 (0, 0))) := by
        have := heap_alloc_new wc (.cells #[.int .i64 4, .int .i64 0, .string ⟨#[]⟩] 93)
        exact this
      have HSZ : Hid (w0.heap.size ≤ (wc.alloc (.cells #[.int .i64 4, .int .i64 0, .string ⟨#[]⟩] 93)).heap.size) := by
        have := HM.out.size
        show _ ≤ _; simp at this ⊢; omega
      clear hi1 hz0 hz1 hz2
      go_wp2_with (at_builtin; refine wpList_append_lies _ rfl _ _ 57 rfl w0.heap.size 93 i1 _ 3 32 Tryz.underlying57 HI.out HZ0.out HZ1.out HZ2.out rfl (by decide) vo cs.length (flat cs) rfl HON.out ⟨wc.heap.size, 0, none⟩ 1 1 (cellV (opC 4)) rfl rfl (World.news_of_block (cs := #[.int .i64 4, .int .i64 0, .string ⟨#[]⟩]) (t := 93) (fr := (0, 0)) HNW.out) (one_vals _) (by decide) (by unfold maxLen; omega) (by omega) HSZ.out (wc.heap.size + 1) (by simp) ?_)
      intro gg cap2 w5 hown2 hgrow2 hat2 hlt2
      have k1 := far_cell (j := 2) (u := vo) HBX.out rfl (own_ne2 HOO.out HBX.out reader_cell) hgrow2
      have k2 := far_out (j := 2) HBX.out (own_ne2 HOO.out HBX.out reader_cell) hgrow2
      have d1 := far_cell (j := 1) (u := .int .i64 p) HBX.out rfl (own_ne2 HOO.out HBX.out reader_cell) hgrow2
      have d2 := far_out (j := 1) HBX.out (own_ne2 HOO.out HBX.out reader_cell) hgrow2
      have HM6 := Lib.hid (HM.out.outNew HBX.out HOO.out HWW.out (opC 4) ((Below.refl _ _).alloc (Nat.le_refl _) _) hown2 hgrow2)
      clear hown2 hgrow2 hat2 hlt2 HBX HOO HWW HON HSZ HNW HM c0 c1 c2 c3 f1 f2 f3
      go_wp2
      generalize w5.setCell ⟨g, 2, none⟩ (.slice (some ⟨gg, 0, none⟩) (cs.length + 1) cap2) = W at HM6 ⊢
      go_ret2
      rw [HP.out]
      exact ⟨rfl, HM6.out.setAt (p' := p + 5) ((p : Int) + 5) (by omega)⟩

set_option maxRecDepth 100000 in
set_option maxHeartbeats 8000000 in
theorem operand_true {w0 w : World} {g : Nat} {s : ByteArray} {p : Nat} {cs : List CM} {ws : List Wt} (h : MS w0 g s p cs ws w) (hp : p < s.size) (hs : s.size ≤ 600) (hb : cs.length + ws.length ≤ 600) (n45 : nx s.data.toList p ≠ 45) (n33 : nx s.data.toList p ≠ 33) (n40 : nx s.data.toList p ≠ 40) (ndd : isD (nx s.data.toList p) = false) (hW : wordP s.data.toList p = wTrue) :
    Calls Tryz.prog 90 #[rp g] w (OPost w0 g s (operM s.data.toList p cs ws)) := by
  have HM0 := Lib.hid h
  obtain ⟨X, hX⟩ : ∃ X : ByteArray, X.data.toList = wordP s.data.toList p := ⟨⟨(wordP s.data.toList p).toArray⟩, rfl⟩
  have hXb : bstr (wordP s.data.toList p) = .string X := by rw [← hX]; rfl
  have hXl : p + X.size ≤ s.size := by
    have := word_le s.data.toList p (by rw [← Lib.size_eq]; omega)
    rw [← hX, ← Lib.size_eq, ← Lib.size_eq] at this; exact this
  have HXB := Lib.hid hXb; have HX := Lib.hid hX
  obtain ⟨c, hc⟩ : ∃ c, nx s.data.toList p = c := ⟨_, rfl⟩
  have hsp : s[p] = c := by rw [← lst_at s p hp, hc]
  have HC := Lib.hid hc; have HSP := Lib.hid hsp
  have hne : ((p : Int) == (s.size : Int)) = false := beq_eq_false_iff_ne.2 (by omega)
  obtain ⟨cb, hcb⟩ : ∃ cb : Bool, (nx s.data.toList (p + X.size) == 40) = cb := ⟨_, rfl⟩
  have HCB := Lib.hid hcb
  have hways : (∃ hlt : p + X.size < s.size, ((s[p + X.size].toNat : Int) == 40) = cb) ∨ (decide ((p : Int) + (X.size : Int) < s.size) = false ∧ cb = false) := by
    by_cases hlt : p + X.size < s.size
    · refine Or.inl ⟨hlt, ?_⟩
      rw [← hcb, ← lst_at s _ hlt]
      cases hq : nx s.data.toList (p + X.size) == 40
      · exact byte_not (k := 40) (by decide) (beq_eq_false_iff_ne.1 hq)
      · exact byte_is (k := 40) (by decide) (beq_iff_eq.1 hq)
    · refine Or.inr ⟨decide_eq_false (by omega), ?_⟩
      rw [← hcb, nx_end (by rw [← Lib.size_eq]; omega)]; rfl
  obtain ⟨vo, vw, ⟨c0, c1, c2, c3, f1, f2, f3⟩, hbox, ho, hw⟩ := h.at_
  clear hbox ho hw h hX hXb hc hsp hcb
  unfold rp
  go_enter Tryz.func90, Tryz.ntmps90
  go_wp2
  go_quiet (fail)
  go_wp2
  go_quiet (fail)
  rw [HSP.out]
  go_wp2_with fail
  refine (refWord_any (by first | exact HM0.out.drewN _ | exact (HM0.out.drewN _).drewN _) p (by omega) hs).mono ?_
  rintro e w1 ⟨rfl, rfl⟩
  rw [HXB.out]
  go_wp2
  go_cut [6] from 37 (fun s6 wc => s6 = .bool cb ∧ Hid (MS w0 g s p cs ws wc))
  case first =>
    rcases hways with ⟨hlt, ht⟩ | ⟨ht, rfl⟩
    · have hlt' : (p : Int) + (X.size : Int) < s.size := by omega
      have hi0 : (0 : Int) ≤ (p : Int) + (X.size : Int) := by omega
      have hwr : IntKind.i64.wrap ((p : Int) + (X.size : Int)) = (p : Int) + (X.size : Int) := IntWalk.i64_in _ (by omega)
      have hnat : ((p : Int) + (X.size : Int)).toNat = p + X.size := by omega
      go_quiet (fail)
      go_wp2
      go_meet
      case rel => exact ⟨rfl, by first | exact HM0.out.drewN _ | exact (HM0.out.drewN _).drewN _ | exact ((HM0.out.drewN _).drewN _).drewN _⟩
    · go_quiet (fail)
      go_wp2
      go_meet
      case rel => exact ⟨rfl, by first | exact HM0.out.drewN _ | exact (HM0.out.drewN _).drewN _ | exact ((HM0.out.drewN _).drewN _).drewN _⟩
  case rest =>
    obtain ⟨rfl, HM⟩ := hcut
    clear c0 c1 c2 c3 f1 f2 f3 hways HM0
    obtain ⟨vo, vw, ⟨c0, c1, c2, c3, f1, f2, f3⟩, hbox, ho, hw⟩ := HM.out.at_
    have HBX := Lib.hid hbox; have HOO := Lib.hid ho; have HWW := Lib.hid hw
    clear hbox ho hw
    have h45 : c ≠ 45 := by rw [← HC.out]; exact n45
    have h33 : c ≠ 33 := by rw [← HC.out]; exact n33
    have h40 : c ≠ 40 := by rw [← HC.out]; exact n40
    have hd : ¬ isD c = true := by rw [← HC.out, ndd]; simp
    clear n45 n33 n40 ndd
    have t45 : ((c.toNat : Int) == 45) = false := byte_not (k := 45) (by decide) h45
    have t33 : ((c.toNat : Int) == 33) = false := byte_not (k := 33) (by decide) h33
    have t40 : ((c.toNat : Int) == 40) = false := byte_not (k := 40) (by decide) h40
    have hdt : decide ((48 : Int) ≤ c.toNat) = false ∨ ((48 : Int) ≤ c.toNat ∧ decide ((c.toNat : Int) ≤ 57) = false) := by
      have hd2 := decide_eq_false_iff_not.1 ((isD_cases c).symm.trans (by simpa using hd))
      by_cases ha : (48 : Int) ≤ c.toNat
      · exact Or.inr ⟨ha, decide_eq_false (fun e => hd2 ⟨ha, e⟩)⟩
      · exact Or.inl (decide_eq_false ha)
    have HP : Hid (operM s.data.toList p cs ws = wordM s.data.toList p cs ws X.data.toList) := by
      unfold operM; rw [HC.out, if_neg h45, if_neg h33, if_neg h40, if_neg hd, HX.out]; exact rfl
    have HCB2 : Hid ((nx s.data.toList (p + X.data.toList.length) = 40) = (cb = true)) := by
      rw [← Lib.size_eq, ← HCB.out]; exact propext (Iff.intro (fun h => by rw [h]; rfl) (fun h => beq_iff_eq.1 h))
    clear h45 h33 h40 hd HXB HCB HC HSP
    have hXs : X.size ≤ 600 := by omega
    have hXe : X.data.toList = [116, 114, 117, 101] := by rw [HX.out, hW]; rfl
    clear HX hW
    have b_re : (X.toList == [114, 101]) = false := by rw [is_list, hXe]; decide
    have b_im : (X.toList == [105, 109]) = false := by rw [is_list, hXe]; decide
    have b_in : (X.toList == [105, 110]) = false := by rw [is_list, hXe]; decide
    have b_true : (X.toList == [116, 114, 117, 101]) = true := by rw [is_list, hXe]; decide
    have b_false : (X.toList == [102, 97, 108, 115, 101]) = false := by rw [is_list, hXe]; decide
    rcases hdt with hd5 | ⟨hd5, hd6⟩
    all_goals
      have HP2 : Hid (operM s.data.toList p cs ws = .go ⟨true, p + 4, cs ++ [opC 3], ws⟩) := by
        rw [HP.out, hXe]
        show wordM s.data.toList p cs ws wTrue = _
        unfold wordM
        rw [if_neg (fun h => absurd h.1 (by decide)), if_neg (fun h => absurd h.1 (by decide)), if_neg (fun h => absurd h.1 (by decide)), if_pos rfl]
      clear hXe HP
      have HP := HP2

      obtain ⟨i1, hi1, hz0, hz1, hz2⟩ := info_parts Tryz.infoCell
      have HI := Lib.hid hi1; have HZ0 := Lib.hid hz0; have HZ1 := Lib.hid hz1; have HZ2 := Lib.hid hz2
      have HON := Lib.hid (HOO.out.alloc (.cells #[.int .i64 3, .int .i64 0, .string ⟨#[]⟩] 93))
      have HNW : Hid ((wc.alloc (.cells #[.int .i64 3, .int .i64 0, .string ⟨#[]⟩] 93)).heap[wc.heap.size]? = some (.cells #[.int .i64 3, .int .i64 0, .string ⟨#[]⟩] 93 (0, 0))) := by
        have := heap_alloc_new wc (.cells #[.int .i64 3, .int .i64 0, .string ⟨#[]⟩] 93)
        exact this
      have HSZ : Hid (w0.heap.size ≤ (wc.alloc (.cells #[.int .i64 3, .int .i64 0, .string ⟨#[]⟩] 93)).heap.size) := by
        have := HM.out.size
        show _ ≤ _; simp at this ⊢; omega
      clear hi1 hz0 hz1 hz2
      go_wp2_with (at_builtin; refine wpList_append_lies _ rfl _ _ 57 rfl w0.heap.size 93 i1 _ 3 32 Tryz.underlying57 HI.out HZ0.out HZ1.out HZ2.out rfl (by decide) vo cs.length (flat cs) rfl HON.out ⟨wc.heap.size, 0, none⟩ 1 1 (cellV (opC 3)) rfl rfl (World.news_of_block (cs := #[.int .i64 3, .int .i64 0, .string ⟨#[]⟩]) (t := 93) (fr := (0, 0)) HNW.out) (one_vals _) (by decide) (by unfold maxLen; omega) (by omega) HSZ.out (wc.heap.size + 1) (by simp) ?_)
      intro gg cap2 w5 hown2 hgrow2 hat2 hlt2
      have k1 := far_cell (j := 2) (u := vo) HBX.out rfl (own_ne2 HOO.out HBX.out reader_cell) hgrow2
      have k2 := far_out (j := 2) HBX.out (own_ne2 HOO.out HBX.out reader_cell) hgrow2
      have d1 := far_cell (j := 1) (u := .int .i64 p) HBX.out rfl (own_ne2 HOO.out HBX.out reader_cell) hgrow2
      have d2 := far_out (j := 1) HBX.out (own_ne2 HOO.out HBX.out reader_cell) hgrow2
      have HM6 := Lib.hid (HM.out.outNew HBX.out HOO.out HWW.out (opC 3) ((Below.refl _ _).alloc (Nat.le_refl _) _) hown2 hgrow2)
      clear hown2 hgrow2 hat2 hlt2 HBX HOO HWW HON HSZ HNW HM c0 c1 c2 c3 f1 f2 f3
      go_wp2
      generalize w5.setCell ⟨g, 2, none⟩ (.slice (some ⟨gg, 0, none⟩) (cs.length + 1) cap2) = W at HM6 ⊢
      go_ret2
      rw [HP.out]
      exact ⟨rfl, HM6.out.setAt (p' := p + 4) ((p : Int) + 4) (by omega)⟩

set_option maxRecDepth 100000 in
set_option maxHeartbeats 8000000 in
theorem operand_im {w0 w : World} {g : Nat} {s : ByteArray} {p : Nat} {cs : List CM} {ws : List Wt} (h : MS w0 g s p cs ws w) (hp : p < s.size) (hs : s.size ≤ 600) (hb : cs.length + ws.length ≤ 600) (n45 : nx s.data.toList p ≠ 45) (n33 : nx s.data.toList p ≠ 33) (n40 : nx s.data.toList p ≠ 40) (ndd : isD (nx s.data.toList p) = false) (hW : wordP s.data.toList p = wIm) :
    Calls Tryz.prog 90 #[rp g] w (OPost w0 g s (operM s.data.toList p cs ws)) := by
  have HM0 := Lib.hid h
  obtain ⟨X, hX⟩ : ∃ X : ByteArray, X.data.toList = wordP s.data.toList p := ⟨⟨(wordP s.data.toList p).toArray⟩, rfl⟩
  have hXb : bstr (wordP s.data.toList p) = .string X := by rw [← hX]; rfl
  have hXl : p + X.size ≤ s.size := by
    have := word_le s.data.toList p (by rw [← Lib.size_eq]; omega)
    rw [← hX, ← Lib.size_eq, ← Lib.size_eq] at this; exact this
  have HXB := Lib.hid hXb; have HX := Lib.hid hX
  obtain ⟨c, hc⟩ : ∃ c, nx s.data.toList p = c := ⟨_, rfl⟩
  have hsp : s[p] = c := by rw [← lst_at s p hp, hc]
  have HC := Lib.hid hc; have HSP := Lib.hid hsp
  have hne : ((p : Int) == (s.size : Int)) = false := beq_eq_false_iff_ne.2 (by omega)
  obtain ⟨cb, hcb⟩ : ∃ cb : Bool, (nx s.data.toList (p + X.size) == 40) = cb := ⟨_, rfl⟩
  have HCB := Lib.hid hcb
  have hways : (∃ hlt : p + X.size < s.size, ((s[p + X.size].toNat : Int) == 40) = cb) ∨ (decide ((p : Int) + (X.size : Int) < s.size) = false ∧ cb = false) := by
    by_cases hlt : p + X.size < s.size
    · refine Or.inl ⟨hlt, ?_⟩
      rw [← hcb, ← lst_at s _ hlt]
      cases hq : nx s.data.toList (p + X.size) == 40
      · exact byte_not (k := 40) (by decide) (beq_eq_false_iff_ne.1 hq)
      · exact byte_is (k := 40) (by decide) (beq_iff_eq.1 hq)
    · refine Or.inr ⟨decide_eq_false (by omega), ?_⟩
      rw [← hcb, nx_end (by rw [← Lib.size_eq]; omega)]; rfl
  obtain ⟨vo, vw, ⟨c0, c1, c2, c3, f1, f2, f3⟩, hbox, ho, hw⟩ := h.at_
  clear hbox ho hw h hX hXb hc hsp hcb
  unfold rp
  go_enter Tryz.func90, Tryz.ntmps90
  go_wp2
  go_quiet (fail)
  go_wp2
  go_quiet (fail)
  rw [HSP.out]
  go_wp2_with fail
  refine (refWord_any (by first | exact HM0.out.drewN _ | exact (HM0.out.drewN _).drewN _) p (by omega) hs).mono ?_
  rintro e w1 ⟨rfl, rfl⟩
  rw [HXB.out]
  go_wp2
  go_cut [6] from 37 (fun s6 wc => s6 = .bool cb ∧ Hid (MS w0 g s p cs ws wc))
  case first =>
    rcases hways with ⟨hlt, ht⟩ | ⟨ht, rfl⟩
    · have hlt' : (p : Int) + (X.size : Int) < s.size := by omega
      have hi0 : (0 : Int) ≤ (p : Int) + (X.size : Int) := by omega
      have hwr : IntKind.i64.wrap ((p : Int) + (X.size : Int)) = (p : Int) + (X.size : Int) := IntWalk.i64_in _ (by omega)
      have hnat : ((p : Int) + (X.size : Int)).toNat = p + X.size := by omega
      go_quiet (fail)
      go_wp2
      go_meet
      case rel => exact ⟨rfl, by first | exact HM0.out.drewN _ | exact (HM0.out.drewN _).drewN _ | exact ((HM0.out.drewN _).drewN _).drewN _⟩
    · go_quiet (fail)
      go_wp2
      go_meet
      case rel => exact ⟨rfl, by first | exact HM0.out.drewN _ | exact (HM0.out.drewN _).drewN _ | exact ((HM0.out.drewN _).drewN _).drewN _⟩
  case rest =>
    obtain ⟨rfl, HM⟩ := hcut
    clear c0 c1 c2 c3 f1 f2 f3 hways HM0
    obtain ⟨vo, vw, ⟨c0, c1, c2, c3, f1, f2, f3⟩, hbox, ho, hw⟩ := HM.out.at_
    have HBX := Lib.hid hbox; have HOO := Lib.hid ho; have HWW := Lib.hid hw
    clear hbox ho hw
    have h45 : c ≠ 45 := by rw [← HC.out]; exact n45
    have h33 : c ≠ 33 := by rw [← HC.out]; exact n33
    have h40 : c ≠ 40 := by rw [← HC.out]; exact n40
    have hd : ¬ isD c = true := by rw [← HC.out, ndd]; simp
    clear n45 n33 n40 ndd
    have t45 : ((c.toNat : Int) == 45) = false := byte_not (k := 45) (by decide) h45
    have t33 : ((c.toNat : Int) == 33) = false := byte_not (k := 33) (by decide) h33
    have t40 : ((c.toNat : Int) == 40) = false := byte_not (k := 40) (by decide) h40
    have hdt : decide ((48 : Int) ≤ c.toNat) = false ∨ ((48 : Int) ≤ c.toNat ∧ decide ((c.toNat : Int) ≤ 57) = false) := by
      have hd2 := decide_eq_false_iff_not.1 ((isD_cases c).symm.trans (by simpa using hd))
      by_cases ha : (48 : Int) ≤ c.toNat
      · exact Or.inr ⟨ha, decide_eq_false (fun e => hd2 ⟨ha, e⟩)⟩
      · exact Or.inl (decide_eq_false ha)
    have HP : Hid (operM s.data.toList p cs ws = wordM s.data.toList p cs ws X.data.toList) := by
      unfold operM; rw [HC.out, if_neg h45, if_neg h33, if_neg h40, if_neg hd, HX.out]; exact rfl
    have HCB2 : Hid ((nx s.data.toList (p + X.data.toList.length) = 40) = (cb = true)) := by
      rw [← Lib.size_eq, ← HCB.out]; exact propext (Iff.intro (fun h => by rw [h]; rfl) (fun h => beq_iff_eq.1 h))
    clear h45 h33 h40 hd HXB HCB HC HSP
    have hXs : X.size ≤ 600 := by omega
    have hXe : X.data.toList = [105, 109] := by rw [HX.out, hW]; rfl
    clear HX hW
    have b_re : (X.toList == [114, 101]) = false := by rw [is_list, hXe]; decide
    have b_im : (X.toList == [105, 109]) = true := by rw [is_list, hXe]; decide
    have b_in : (X.toList == [105, 110]) = false := by rw [is_list, hXe]; decide
    have b_true : (X.toList == [116, 114, 117, 101]) = false := by rw [is_list, hXe]; decide
    have b_false : (X.toList == [102, 97, 108, 115, 101]) = false := by rw [is_list, hXe]; decide
    rcases hdt with hd5 | ⟨hd5, hd6⟩
    all_goals
      have hq40 : nx s.data.toList (p + wIm.length) = 40 ↔ cb = true := by
        have := HCB2.out
        rw [hXe] at this
        exact Iff.of_eq this
      cases cb
      · have HP2 : Hid (operM s.data.toList p cs ws = .bad p) := by
          rw [HP.out, hXe]
          show wordM s.data.toList p cs ws wIm = _
          unfold wordM
          rw [if_neg (fun h => absurd h.1 (by decide)), if_neg (fun h => absurd (hq40.1 h.2) (by simp)), if_neg (fun h => absurd h.1 (by decide)), if_neg (by decide), if_neg (by decide), if_neg (by decide)]
        have HN6 : Hid (nameB X.data.toList = false) := by rw [hXe]; exact (by decide : nameB [105, 109] = false)
        clear hXe hq40
        go_wp2_with fail
        refine (refName_any X _).mono ?_
        rintro e w5 ⟨rfl, rfl⟩
        rw [HN6.out]
        go_wp2
        go_ret2
        rw [HP2.out]
        exact ⟨rfl, HM.out.below⟩
      · have HP2 : Hid (operM s.data.toList p cs ws = .go ⟨false, p + 3, cs, (10, 0) :: ws⟩) := by
          rw [HP.out, hXe]
          show wordM s.data.toList p cs ws wIm = _
          unfold wordM
          rw [if_neg (fun h => absurd h.1 (by decide)), if_pos ⟨rfl, hq40.2 rfl⟩]
        clear hXe hq40 HP
        have HP := HP2

        obtain ⟨i1, hi1, hz0, hz1, hz2⟩ := info_parts Tryz.infoOpen
        have HI := Lib.hid hi1; have HZ0 := Lib.hid hz0; have HZ1 := Lib.hid hz1; have HZ2 := Lib.hid hz2
        have HON := Lib.hid (HWW.out.alloc (.cells #[.int .i64 10, .int .i64 0] 170))
        have HSZ : Hid (w0.heap.size ≤ (wc.alloc (.cells #[.int .i64 10, .int .i64 0] 170)).heap.size) := by
          have := HM.out.size
          show _ ≤ _; simp at this ⊢; omega
        clear hi1 hz0 hz1 hz2
        go_wp2_with (at_builtin; refine wpList_append_lies _ rfl _ _ 131 rfl w0.heap.size 170 i1 _ 2 16 Tryz.unOpen HI.out HZ0.out HZ1.out HZ2.out rfl (by decide) vw ws.length (flatW ws.reverse) rfl HON.out ⟨wc.heap.size, 0, none⟩ 1 1 (waitV (10, 0)) rfl rfl (World.news_of_block (cs := #[.int .i64 10, .int .i64 0]) (t := 170) (fr := (0, 0)) (heap_alloc_new wc _)) (flatW_vals _) (by decide) (by unfold maxLen; omega) (by omega) HSZ.out (wc.heap.size + 1) (by simp) ?_)
        intro gg cap2 w5 hown2 hgrow2 hat2 hlt2
        have k1 := far_cell (j := 3) (u := vw) HBX.out rfl (own_ne2 HWW.out HBX.out reader_open) hgrow2
        have k2 := far_out (j := 3) HBX.out (own_ne2 HWW.out HBX.out reader_open) hgrow2
        have d1 := far_cell (j := 1) (u := .int .i64 p) HBX.out rfl (own_ne2 HWW.out HBX.out reader_open) hgrow2
        have d2 := far_out (j := 1) HBX.out (own_ne2 HWW.out HBX.out reader_open) hgrow2
        have HM6 := Lib.hid (HM.out.waitNew HBX.out HOO.out HWW.out (10, 0) ((Below.refl _ _).alloc (Nat.le_refl _) _) hown2 hgrow2)
        clear hown2 hgrow2 hat2 hlt2 HBX HOO HWW HON HSZ HM c0 c1 c2 c3 f1 f2 f3
        go_wp2
        generalize w5.setCell ⟨g, 3, none⟩ (.slice (some ⟨gg, 0, none⟩) (ws.length + 1) cap2) = W at HM6 ⊢
        go_ret2
        rw [HP.out]
        exact ⟨rfl, HM6.out.setAt (p' := p + 3) ((p : Int) + 3) (by omega)⟩

set_option maxRecDepth 100000 in
set_option maxHeartbeats 8000000 in
theorem operand_re {w0 w : World} {g : Nat} {s : ByteArray} {p : Nat} {cs : List CM} {ws : List Wt} (h : MS w0 g s p cs ws w) (hp : p < s.size) (hs : s.size ≤ 600) (hb : cs.length + ws.length ≤ 600) (n45 : nx s.data.toList p ≠ 45) (n33 : nx s.data.toList p ≠ 33) (n40 : nx s.data.toList p ≠ 40) (ndd : isD (nx s.data.toList p) = false) (hW : wordP s.data.toList p = wRe) :
    Calls Tryz.prog 90 #[rp g] w (OPost w0 g s (operM s.data.toList p cs ws)) := by
  have HM0 := Lib.hid h
  obtain ⟨X, hX⟩ : ∃ X : ByteArray, X.data.toList = wordP s.data.toList p := ⟨⟨(wordP s.data.toList p).toArray⟩, rfl⟩
  have hXb : bstr (wordP s.data.toList p) = .string X := by rw [← hX]; rfl
  have hXl : p + X.size ≤ s.size := by
    have := word_le s.data.toList p (by rw [← Lib.size_eq]; omega)
    rw [← hX, ← Lib.size_eq, ← Lib.size_eq] at this; exact this
  have HXB := Lib.hid hXb; have HX := Lib.hid hX
  obtain ⟨c, hc⟩ : ∃ c, nx s.data.toList p = c := ⟨_, rfl⟩
  have hsp : s[p] = c := by rw [← lst_at s p hp, hc]
  have HC := Lib.hid hc; have HSP := Lib.hid hsp
  have hne : ((p : Int) == (s.size : Int)) = false := beq_eq_false_iff_ne.2 (by omega)
  obtain ⟨cb, hcb⟩ : ∃ cb : Bool, (nx s.data.toList (p + X.size) == 40) = cb := ⟨_, rfl⟩
  have HCB := Lib.hid hcb
  have hways : (∃ hlt : p + X.size < s.size, ((s[p + X.size].toNat : Int) == 40) = cb) ∨ (decide ((p : Int) + (X.size : Int) < s.size) = false ∧ cb = false) := by
    by_cases hlt : p + X.size < s.size
    · refine Or.inl ⟨hlt, ?_⟩
      rw [← hcb, ← lst_at s _ hlt]
      cases hq : nx s.data.toList (p + X.size) == 40
      · exact byte_not (k := 40) (by decide) (beq_eq_false_iff_ne.1 hq)
      · exact byte_is (k := 40) (by decide) (beq_iff_eq.1 hq)
    · refine Or.inr ⟨decide_eq_false (by omega), ?_⟩
      rw [← hcb, nx_end (by rw [← Lib.size_eq]; omega)]; rfl
  obtain ⟨vo, vw, ⟨c0, c1, c2, c3, f1, f2, f3⟩, hbox, ho, hw⟩ := h.at_
  clear hbox ho hw h hX hXb hc hsp hcb
  unfold rp
  go_enter Tryz.func90, Tryz.ntmps90
  go_wp2
  go_quiet (fail)
  go_wp2
  go_quiet (fail)
  rw [HSP.out]
  go_wp2_with fail
  refine (refWord_any (by first | exact HM0.out.drewN _ | exact (HM0.out.drewN _).drewN _) p (by omega) hs).mono ?_
  rintro e w1 ⟨rfl, rfl⟩
  rw [HXB.out]
  go_wp2
  go_cut [6] from 37 (fun s6 wc => s6 = .bool cb ∧ Hid (MS w0 g s p cs ws wc))
  case first =>
    rcases hways with ⟨hlt, ht⟩ | ⟨ht, rfl⟩
    · have hlt' : (p : Int) + (X.size : Int) < s.size := by omega
      have hi0 : (0 : Int) ≤ (p : Int) + (X.size : Int) := by omega
      have hwr : IntKind.i64.wrap ((p : Int) + (X.size : Int)) = (p : Int) + (X.size : Int) := IntWalk.i64_in _ (by omega)
      have hnat : ((p : Int) + (X.size : Int)).toNat = p + X.size := by omega
      go_quiet (fail)
      go_wp2
      go_meet
      case rel => exact ⟨rfl, by first | exact HM0.out.drewN _ | exact (HM0.out.drewN _).drewN _ | exact ((HM0.out.drewN _).drewN _).drewN _⟩
    · go_quiet (fail)
      go_wp2
      go_meet
      case rel => exact ⟨rfl, by first | exact HM0.out.drewN _ | exact (HM0.out.drewN _).drewN _ | exact ((HM0.out.drewN _).drewN _).drewN _⟩
  case rest =>
    obtain ⟨rfl, HM⟩ := hcut
    clear c0 c1 c2 c3 f1 f2 f3 hways HM0
    obtain ⟨vo, vw, ⟨c0, c1, c2, c3, f1, f2, f3⟩, hbox, ho, hw⟩ := HM.out.at_
    have HBX := Lib.hid hbox; have HOO := Lib.hid ho; have HWW := Lib.hid hw
    clear hbox ho hw
    have h45 : c ≠ 45 := by rw [← HC.out]; exact n45
    have h33 : c ≠ 33 := by rw [← HC.out]; exact n33
    have h40 : c ≠ 40 := by rw [← HC.out]; exact n40
    have hd : ¬ isD c = true := by rw [← HC.out, ndd]; simp
    clear n45 n33 n40 ndd
    have t45 : ((c.toNat : Int) == 45) = false := byte_not (k := 45) (by decide) h45
    have t33 : ((c.toNat : Int) == 33) = false := byte_not (k := 33) (by decide) h33
    have t40 : ((c.toNat : Int) == 40) = false := byte_not (k := 40) (by decide) h40
    have hdt : decide ((48 : Int) ≤ c.toNat) = false ∨ ((48 : Int) ≤ c.toNat ∧ decide ((c.toNat : Int) ≤ 57) = false) := by
      have hd2 := decide_eq_false_iff_not.1 ((isD_cases c).symm.trans (by simpa using hd))
      by_cases ha : (48 : Int) ≤ c.toNat
      · exact Or.inr ⟨ha, decide_eq_false (fun e => hd2 ⟨ha, e⟩)⟩
      · exact Or.inl (decide_eq_false ha)
    have HP : Hid (operM s.data.toList p cs ws = wordM s.data.toList p cs ws X.data.toList) := by
      unfold operM; rw [HC.out, if_neg h45, if_neg h33, if_neg h40, if_neg hd, HX.out]; exact rfl
    have HCB2 : Hid ((nx s.data.toList (p + X.data.toList.length) = 40) = (cb = true)) := by
      rw [← Lib.size_eq, ← HCB.out]; exact propext (Iff.intro (fun h => by rw [h]; rfl) (fun h => beq_iff_eq.1 h))
    clear h45 h33 h40 hd HXB HCB HC HSP
    have hXs : X.size ≤ 600 := by omega
    have hXe : X.data.toList = [114, 101] := by rw [HX.out, hW]; rfl
    clear HX hW
    have b_re : (X.toList == [114, 101]) = true := by rw [is_list, hXe]; decide
    have b_im : (X.toList == [105, 109]) = false := by rw [is_list, hXe]; decide
    have b_in : (X.toList == [105, 110]) = false := by rw [is_list, hXe]; decide
    have b_true : (X.toList == [116, 114, 117, 101]) = false := by rw [is_list, hXe]; decide
    have b_false : (X.toList == [102, 97, 108, 115, 101]) = false := by rw [is_list, hXe]; decide
    rcases hdt with hd5 | ⟨hd5, hd6⟩
    all_goals
      have hq40 : nx s.data.toList (p + wRe.length) = 40 ↔ cb = true := by
        have := HCB2.out
        rw [hXe] at this
        exact Iff.of_eq this
      cases cb
      · have HP2 : Hid (operM s.data.toList p cs ws = .bad p) := by
          rw [HP.out, hXe]
          show wordM s.data.toList p cs ws wRe = _
          unfold wordM
          rw [if_neg (fun h => absurd (hq40.1 h.2) (by simp)), if_neg (fun h => absurd h.1 (by decide)), if_neg (fun h => absurd h.1 (by decide)), if_neg (by decide), if_neg (by decide), if_neg (by decide)]
        have HN6 : Hid (nameB X.data.toList = false) := by rw [hXe]; exact (by decide : nameB [114, 101] = false)
        clear hXe hq40
        go_wp2_with fail
        refine (refName_any X _).mono ?_
        rintro e w5 ⟨rfl, rfl⟩
        rw [HN6.out]
        go_wp2
        go_ret2
        rw [HP2.out]
        exact ⟨rfl, HM.out.below⟩
      · have HP2 : Hid (operM s.data.toList p cs ws = .go ⟨false, p + 3, cs, (9, 0) :: ws⟩) := by
          rw [HP.out, hXe]
          show wordM s.data.toList p cs ws wRe = _
          unfold wordM
          rw [if_pos ⟨rfl, hq40.2 rfl⟩]
        clear hXe hq40 HP
        have HP := HP2

        obtain ⟨i1, hi1, hz0, hz1, hz2⟩ := info_parts Tryz.infoOpen
        have HI := Lib.hid hi1; have HZ0 := Lib.hid hz0; have HZ1 := Lib.hid hz1; have HZ2 := Lib.hid hz2
        have HON := Lib.hid (HWW.out.alloc (.cells #[.int .i64 9, .int .i64 0] 170))
        have HSZ : Hid (w0.heap.size ≤ (wc.alloc (.cells #[.int .i64 9, .int .i64 0] 170)).heap.size) := by
          have := HM.out.size
          show _ ≤ _; simp at this ⊢; omega
        clear hi1 hz0 hz1 hz2
        go_wp2_with (at_builtin; refine wpList_append_lies _ rfl _ _ 131 rfl w0.heap.size 170 i1 _ 2 16 Tryz.unOpen HI.out HZ0.out HZ1.out HZ2.out rfl (by decide) vw ws.length (flatW ws.reverse) rfl HON.out ⟨wc.heap.size, 0, none⟩ 1 1 (waitV (9, 0)) rfl rfl (World.news_of_block (cs := #[.int .i64 9, .int .i64 0]) (t := 170) (fr := (0, 0)) (heap_alloc_new wc _)) (flatW_vals _) (by decide) (by unfold maxLen; omega) (by omega) HSZ.out (wc.heap.size + 1) (by simp) ?_)
        intro gg cap2 w5 hown2 hgrow2 hat2 hlt2
        have k1 := far_cell (j := 3) (u := vw) HBX.out rfl (own_ne2 HWW.out HBX.out reader_open) hgrow2
        have k2 := far_out (j := 3) HBX.out (own_ne2 HWW.out HBX.out reader_open) hgrow2
        have d1 := far_cell (j := 1) (u := .int .i64 p) HBX.out rfl (own_ne2 HWW.out HBX.out reader_open) hgrow2
        have d2 := far_out (j := 1) HBX.out (own_ne2 HWW.out HBX.out reader_open) hgrow2
        have HM6 := Lib.hid (HM.out.waitNew HBX.out HOO.out HWW.out (9, 0) ((Below.refl _ _).alloc (Nat.le_refl _) _) hown2 hgrow2)
        clear hown2 hgrow2 hat2 hlt2 HBX HOO HWW HON HSZ HM c0 c1 c2 c3 f1 f2 f3
        go_wp2
        generalize w5.setCell ⟨g, 3, none⟩ (.slice (some ⟨gg, 0, none⟩) (ws.length + 1) cap2) = W at HM6 ⊢
        go_ret2
        rw [HP.out]
        exact ⟨rfl, HM6.out.setAt (p' := p + 3) ((p : Int) + 3) (by omega)⟩
end
end Go.Proofs.YtjgfkmakfdepcaaGreatDoor
