/- The document's text of every operand of a right list; its Show; the law ExprShows walked. -/
import Derived.Test.YtfgocdeaanalgaaDoorFK
import Derived.Test.YtfgocdeaanalgaaDoorFL
import Derived.Test.YtfgocdeaanalgaaDoorF9
namespace Go.Proofs.YtfgocdeaanalgaaDoor
open Go.RowKit

theorem rd_at {w : World} {b o cc n : Nat} {cs : List CM} (h : RdC w (.slice (some ⟨b, o, none⟩) n cc) cs) {i : Nat} {c : CM} (hc : cs[i]? = some c) :
    w.cell? ⟨b, o + i * 3, none⟩ = some (.int .i64 c.op) ∧ w.cell? ⟨b, o + i * 3 + 1, none⟩ = some (.int .i64 c.a) ∧ w.cell? ⟨b, o + i * 3 + 2, none⟩ = some (bstr c.nm) := by
  obtain ⟨A, c', hv, hr⟩ := h
  obtain ⟨hi, rfl⟩ := List.getElem?_eq_some_iff.1 hc
  obtain ⟨b', o', rfl, e0, e1, e2⟩ := hr i hi
  simp only [Value.slice.injEq, Option.some.injEq, Addr.mk.injEq] at hv
  obtain ⟨⟨rfl, rfl, _⟩, _, _⟩ := hv
  exact ⟨e0, e1, e2⟩

/-- where the cells of a tree stand in a list -/
def Sits (cs : List CM) (p : Nat) (t : T) : Prop := ∃ A B, cs = A ++ post t ++ B ∧ A.length = p
theorem Sits.le {cs : List CM} {p : Nat} {t : T} (h : Sits cs p t) : p + (post t).length ≤ cs.length := by
  obtain ⟨A, B, rfl, rfl⟩ := h; rw [List.length_append, List.length_append]; omega
theorem Sits.beg {cs : List CM} {p : Nat} {t : T} (h : Sits cs p t) (ht : OkT t) : begN (cs.take (p + (post t).length - 1 + 1)).reverse 1 = p + (post t).length - 1 + 1 - p := by
  obtain ⟨A, B, rfl, rfl⟩ := h
  have h1 := post_pos t
  have e : A.length + (post t).length - 1 + 1 = (A ++ post t).length := by rw [List.length_append]; omega
  rw [e, List.take_left, List.reverse_append, beg_tree ht, if_pos rfl, List.length_append]; omega
theorem Sits.un {cs : List CM} {p : Nat} {o : Int} {t : T} (h : Sits cs p (.un o t)) : Sits cs p t := by
  obtain ⟨A, B, rfl, rfl⟩ := h
  exact ⟨A, opC o :: B, by simp [post], rfl⟩
theorem Sits.left {cs : List CM} {p : Nat} {o : Int} {l r : T} (h : Sits cs p (.bin o l r)) : Sits cs p l := by
  obtain ⟨A, B, rfl, rfl⟩ := h
  exact ⟨A, post r ++ opC o :: B, by simp [post], rfl⟩
theorem Sits.right {cs : List CM} {p : Nat} {o : Int} {l r : T} (h : Sits cs p (.bin o l r)) : Sits cs (p + (post l).length) r := by
  obtain ⟨A, B, rfl, rfl⟩ := h
  exact ⟨A ++ post l, opC o :: B, by simp [post], by simp⟩
def lastC : T → CM
  | .leaf c => c
  | .un o _ => opC o
  | .bin o _ _ => opC o
theorem Sits.last {cs : List CM} {p : Nat} {t : T} (h : Sits cs p t) : cs[p + (post t).length - 1]? = some (lastC t) := by
  obtain ⟨A, B, rfl, rfl⟩ := h
  cases t with
  | leaf c => simp [post, lastC]
  | un o t =>
    have e : A.length + (post (.un o t)).length - 1 = (A ++ post t).length := by simp [post]
    rw [e, show A ++ post (.un o t) ++ B = (A ++ post t) ++ (opC o :: B) by simp [post]]
    simp [lastC]
  | bin o l r =>
    have e : A.length + (post (.bin o l r)).length - 1 = (A ++ post l ++ post r).length := by simp [post]; omega
    rw [e, show A ++ post (.bin o l r) ++ B = (A ++ post l ++ post r) ++ (opC o :: B) by simp [post]]
    simp [lastC]

theorem txt_len {t : T} {k : Int} (h : OkT t) (h32 : (post t).length ≤ 32) : (txt k t).length ≤ 1000 := by
  have h1 := txt_top t k
  have h2 := text_len h
  omega
theorem txt_leaf {c : CM} {k : Int} (h : OkT (.leaf c)) (hk : k ≤ 6) : txt k (.leaf c) = (joinP c none0 none0).1 := by
  rw [txt_own (by rw [leaf_top h]; omega)]; rfl

theorem post_formed {t : T} (h : OkT t) : ∀ c ∈ post t, formedB c = true := by
  induction t with
  | leaf c => intro x hx; simp [post] at hx; subst hx; exact h.1
  | un o t ih =>
    intro x hx
    rcases List.mem_append.1 hx with hx | hx
    · exact ih h.2.2 x hx
    · simp at hx; subst hx; exact formed_opC ⟨h.1, by have := h.2.1; omega⟩
  | bin o l r ihl ihr =>
    intro x hx
    rcases List.mem_append.1 hx with hx | hx
    · rcases List.mem_append.1 hx with hx | hx
      · exact ihl h.2.2.1 x hx
      · exact ihr h.2.2.2 x hx
    · simp at hx; subst hx; exact formed_opC ⟨by have := h.1; omega, h.2.1⟩
theorem right_len {cs : List CM} (h : rightB cs = true) : cs.length ≤ 32 := by
  unfold rightB at h; simp at h; exact h.1

theorem told_all (t : T) : OkT t → ∀ (cs : List CM) (b o cc p : Nat) (k : Int) (w : World), RdC w (.slice (some ⟨b, o, none⟩) cs.length cc) cs → (∀ c ∈ cs, formedB c = true) → cs.length ≤ 32 → Sits cs p t → 0 ≤ k → k ≤ 6 →
    Calls Tryd.prog 22 #[.slice (some ⟨b, o, none⟩) cs.length cc, .int .i64 ((p + (post t).length - 1 : Nat) : Int), .int .i64 k] w (ToldPost (txt k t) w) := by
  induction t with
  | leaf c =>
    intro ht cs b o cc p k w hR hF hl hS hk0 hk6
    have hle := hS.le
    have hp := post_pos (.leaf c)
    have hla := hS.last
    obtain ⟨d0, d1, d2⟩ := rd_at hR hla
    have hf := ht.1
    rw [txt_leaf ht hk6]
    have h16 : 1 ≤ c.op ∧ c.op ≤ 6 := by
      have h1 := formed_op ht.1
      have ho := ht.2
      unfold operN at ho
      split at ho
      · assumption
      · split at ho <;> omega
    have hc : c.op = 1 ∨ c.op = 2 ∨ c.op = 3 ∨ c.op = 4 ∨ c.op = 5 ∨ c.op = 6 := by omega
    obtain ⟨op, a, nm⟩ := c
    simp only at d0 d1 d2 hf hc
    rcases hc with rfl | rfl | rfl | rfl | rfl | rfl
    · exact told_1 a nm b o _ cc _ k w (by omega) hk6 hf d0 d1 d2
    · exact told_2 a nm b o _ cc _ k w (by omega) hk6 hf d0 d1 d2
    · exact told_3 a nm b o _ cc _ k w (by omega) hk6 hf d0 d1 d2
    · exact told_4 a nm b o _ cc _ k w (by omega) hk6 hf d0 d1 d2
    · exact told_5 a nm b o _ cc _ k w (by omega) hk6 hf d0 d1 d2
    · exact told_6 a nm b o _ cc _ k w (by omega) hk6 hf d0 d1 d2
  | un o' t ih =>
    intro ht cs b o cc p k w hR hF hl hS hk0 hk6
    have hle := hS.le
    have hla := hS.last
    obtain ⟨d0, d1, d2⟩ := rd_at hR hla
    have hpt := post_pos t
    have hlen : (post (.un o' t)).length = (post t).length + 1 := by simp [post]
    have hx0 : ∀ j, (txt j t).length ≤ 1000 := fun j => txt_len ht.2.2 (by omega)
    have hin : ∀ (j : Int) (W : World), 0 ≤ j → j ≤ 6 → Below w.heap.size w W → Calls Tryd.prog 22 #[.slice (some ⟨b, o, none⟩) cs.length cc, .int .i64 (((p + (post (.un o' t)).length - 1 : Nat) : Int) - 1), .int .i64 j] W (ToldPost (txt j t) W) := by
      intro j W hj0 hj6 hW
      have := ih ht.2.2 cs b o cc p j W (hR.below hW) hF hl hS.un hj0 hj6
      rw [show ((p + (post t).length - 1 : Nat) : Int) = ((p + (post (.un o' t)).length - 1 : Nat) : Int) - 1 by omega] at this
      exact this
    have hf : formedB (opC o') = true := formed_opC ⟨ht.1, by have := ht.2.1; omega⟩
    have hst := strength ht.2.2
    have h78 : o' = 7 ∨ o' = 8 ∨ o' = 9 ∨ o' = 10 := by have := ht.1; have := ht.2.1; omega
    rcases h78 with rfl | rfl | rfl | rfl
    · rw [txt_own (t := .un 7 t) (by show k ≤ 6; omega)]
      exact told_7 0 [] b o _ cc _ k w (by omega) hk6 hf d0 d1 d2 (by omega) hl _ (hx0 6) (fun W hW => hin 6 W (by omega) (by omega) hW)
    · rw [txt_own (t := .un 8 t) (by show k ≤ 6; omega)]
      exact told_8 0 [] b o _ cc _ k w (by omega) hk6 hf d0 d1 d2 (by omega) hl _ (hx0 6) (fun W hW => hin 6 W (by omega) (by omega) hW)
    · rw [txt_own (t := .un 9 t) (by show k ≤ 7; omega)]
      have e : (pcT (.un 9 t)).1 = [114, 101, 40] ++ txt 0 t ++ [41] := by rw [txt_own (t := t) (by omega)]; rfl
      rw [e]
      exact told_9 0 [] b o _ cc _ k w (by omega) hk6 hf d0 d1 d2 (by omega) hl _ (hx0 0) (fun W hW => hin 0 W (by omega) (by omega) hW)
    · rw [txt_own (t := .un 10 t) (by show k ≤ 7; omega)]
      have e : (pcT (.un 10 t)).1 = [105, 109, 40] ++ txt 0 t ++ [41] := by rw [txt_own (t := t) (by omega)]; rfl
      rw [e]
      exact told_10 0 [] b o _ cc _ k w (by omega) hk6 hf d0 d1 d2 (by omega) hl _ (hx0 0) (fun W hW => hin 0 W (by omega) (by omega) hW)
  | bin o' l r ihl ihr =>
    intro ht cs b o cc p k w hR hF hl hS hk0 hk6
    have hle := hS.le
    have hla := hS.last
    obtain ⟨d0, d1, d2⟩ := rd_at hR hla
    have hpl := post_pos l; have hpr := post_pos r
    have hlen : (post (.bin o' l r)).length = (post l).length + (post r).length + 1 := by simp [post]; omega
    obtain ⟨j, hj, rfl⟩ : ∃ j : Nat, j < 13 ∧ o' = (j : Int) + 11 := ⟨(o' - 11).toNat, by have := ht.1; have := ht.2.1; omega, by have := ht.1; omega⟩
    have hf : formedB (opC ((j : Int) + 11)) = true := formed_opC ⟨by omega, by omega⟩
    obtain ⟨_, ht1, ht5⟩ := tab_first j hj
    have e : pcT (.bin ((j : Int) + 11) l r) = (txt (if (tabAt j).2.2 = 3 then 4 else (tabAt j).2.2) l ++ (tabAt j).2.1 ++ txt ((tabAt j).2.2 + 1) r, (tabAt j).2.2) := by
      show joinP (opC ((j : Int) + 11)) (pcT l) (pcT r) = _
      rw [joinP_bin ht.1, show ((j : Int) + 11 - 11).toNat = j by omega]
      unfold betP txt
      by_cases h3 : (tabAt j).2.2 = 3
      · rw [if_pos h3, if_pos h3, h3]; rfl
      · rw [if_neg h3, if_neg h3]
    show Calls _ _ _ _ (ToldPost (inP (pcT (.bin ((j : Int) + 11) l r)).1 (pcT (.bin ((j : Int) + 11) l r)).2 k) w)
    rw [e]
    refine told_two j hj 0 [] b o _ cc _ (p + (post l).length) k w (by omega) hf d0 d1 d2 (by omega) (by omega) (by omega) hl _ _ (txt_len ht.2.2.1 (by omega)) (txt_len ht.2.2.2 (by omega)) ?_ ?_ ?_
    · intro W hW
      have hb := hS.right.beg ht.2.2.2
      have := begin_any _ cs W (hR.below hW) hF hl (p + (post l).length) (p + (post l).length + (post r).length - 1) (by omega) (by omega) hb
      rw [show ((p + (post l).length + (post r).length - 1 : Nat) : Int) = ((p + (post (.bin ((j : Int) + 11) l r)).length - 1 : Nat) : Int) - 1 by omega] at this
      exact this
    · intro W hW
      have := ihl ht.2.2.1 cs b o cc p (if (tabAt j).2.2 = 3 then 4 else (tabAt j).2.2) W (hR.below hW) hF hl hS.left (by split <;> omega) (by split <;> omega)
      rw [show ((p + (post l).length - 1 : Nat) : Int) = ((p + (post l).length : Nat) : Int) - 1 by omega] at this
      exact this
    · intro W hW
      have := ihr ht.2.2.2 cs b o cc (p + (post l).length) ((tabAt j).2.2 + 1) W (hR.below hW) hF hl hS.right (by omega) (by omega)
      rw [show ((p + (post l).length + (post r).length - 1 : Nat) : Int) = ((p + (post (.bin ((j : Int) + 11) l r)).length - 1 : Nat) : Int) - 1 by omega] at this
      exact this

set_option maxRecDepth 100000 in
set_option maxHeartbeats 2000000 in
theorem refShow_any (v : Value) (cs : List CM) (w : World) (hR : RdC w v cs) (hl : cs.length ≤ 4611686018427387904) (hN : Names cs) :
    Calls Tryd.prog 14 #[v] w fun e w' => e = .returned (.tuple #[bstr (showP cs).1, .int .i64 (showP cs).2]) ∧ Below w.heap.size w w' := by
  have HRR := Lib.hid (refRight_any v cs w hR hl hN)
  cases hB : rightB cs
  · have HS : Hid (showP cs = ([], 1)) := show_no hB
    obtain ⟨A, c, rfl, _⟩ := hR
    have HBB := Lib.hid hB
    clear hB
    go_enter Tryd.func14, Tryd.ntmps14
    go_wp2_with fail
    refine HRR.out.mono ?_
    rintro e w1 ⟨rfl, hb1⟩
    rw [HBB.out]
    have HB1 := Lib.hid hb1; clear hb1
    go_wp2
    go_ret2
    exact ⟨by rw [HS.out]; rfl, HB1.out⟩
  · obtain ⟨t, ht, hcs⟩ := right_tree hB
    have hF : ∀ c ∈ cs, formedB c = true := by rw [← hcs]; exact post_formed ht
    have hpos := post_pos t
    have hcl : cs.length = (post t).length := by rw [hcs]
    have h32 : (post t).length ≤ 32 := by have := right_len hB; omega
    have HS : Hid (showP cs = (txt 0 t, 0)) := by
      rw [← hcs]
      have := tree_show ht h32
      rw [txt_own (t := t) (by have := strength ht; omega)]
      exact this
    obtain ⟨A, c, rfl, hr⟩ := hR
    obtain ⟨b, o, rfl, hr0⟩ := hr 0 (by omega)
    clear hr0
    have HT : Hid (∀ W, Below w.heap.size w W → Calls Tryd.prog 22 #[.slice (some ⟨b, o, none⟩) cs.length c, .int .i64 ((cs.length : Int) - 1), .int .i64 0] W (ToldPost (txt 0 t) W)) := by
      intro W hW
      have := told_all t ht cs b o c 0 0 W (RdC.below ⟨_, _, rfl, hr⟩ hW) hF (by omega) ⟨[], [], by simp [hcs], rfl⟩ (by omega) (by omega)
      rw [show ((0 + (post t).length - 1 : Nat) : Int) = (cs.length : Int) - 1 by omega] at this
      exact this
    have HBB := Lib.hid hB
    have hl2 : cs.length ≤ 32 := by omega
    clear hB hcs hF hr ht h32 hcl hl hN
    generalize cs.length = n at *
    go_enter Tryd.func14, Tryd.ntmps14
    go_wp2_with fail
    refine HRR.out.mono ?_
    rintro e w1 ⟨rfl, hb1⟩
    rw [HBB.out]
    have HB1 := Lib.hid hb1; clear hb1
    go_wp2_with fail
    refine (HT.out _ HB1.out).mono ?_
    rintro e w2 ⟨rfl, hb2⟩
    have HB2 := Lib.hid (HB1.out.trans (hb2.mono HB1.out.size)); clear hb2
    go_wp2
    go_ret2
    exact ⟨by rw [HS.out]; rfl, HB2.out⟩

set_option maxRecDepth 100000 in
set_option maxHeartbeats 2000000 in
theorem shows_law (v : Value) (cs : List CM) (w : World) (hR : RdI w v cs) (hl : cs.length * 32 ≤ 140737488355328) (hN : Names cs) (hO : Ops w) (hL : Laid w) :
    Calls Tryd.prog 4 #[v] w fun e w' => e = .returned (.bool true) ∧ Below w.heap.size w w' := by
  have HR := Lib.hid hR
  have HOL : Hid (Ops w ∧ Laid w) := ⟨hO, hL⟩
  have HN := Lib.hid hN
  obtain ⟨T, hT⟩ : ∃ T : ByteArray, (⟨(showP cs).1.toArray⟩ : ByteArray) = T := ⟨_, rfl⟩
  obtain ⟨E, hE⟩ : ∃ E, (showP cs).2 = E := ⟨_, rfl⟩
  have hTb : bstr (showP cs).1 = .string T := by rw [← hT]; rfl
  have HT := Lib.hid hT; have HTB := Lib.hid hTb; have HE := Lib.hid hE
  have hE4 : 0 ≤ E ∧ E ≤ 4 := by
    rw [← hE]; unfold showP; split <;> simp
  obtain ⟨hE0, hE1⟩ := hE4
  clear hR hO hL hN hT hTb hE
  go_enter Tryd.func4, Tryd.ntmps4
  go_wp2_with fail
  refine (copied_any _ cs w HR.out hl).mono ?_
  rintro e w1 ⟨v1, rfl, h1⟩
  have H1 := Lib.hid h1; clear h1
  go_wp2_with fail
  refine (show_any _ cs w1 H1.out.rd (by omega) (HOL.out.1.below H1.out.below) (HOL.out.2.below H1.out.below)).mono ?_
  rintro e w2 ⟨rfl, hb2⟩
  rw [HT.out, HE.out]
  have HB2 := Lib.hid (H1.out.below.trans (hb2.mono H1.out.below.size)); clear hb2
  go_wp2_with fail
  refine (refShow_any _ cs w2 (HR.out.below HB2.out).rd (by omega) HN.out).mono ?_
  rintro e w3 ⟨rfl, hb3⟩
  rw [HTB.out, HE.out]
  have HB3 := Lib.hid (HB2.out.trans (hb3.mono HB2.out.size)); clear hb3
  have HW := Lib.hid (wakes_any w3 (HOL.out.1.below HB3.out) (HOL.out.2.below HB3.out))
  go_wp2_with fail
  refine HW.out.mono ?_
  rintro e w4 ⟨rfl, hb4⟩
  have HB4 := Lib.hid (HB3.out.trans (hb4.mono HB3.out.size)); clear hb4
  go_wp2
  go_ret
  exact ⟨rfl, HB4.out⟩
end Go.Proofs.YtfgocdeaanalgaaDoor
