/- The document's text of an operand: an operator between two. -/
import Derived.Test.YtfgocdeaanalgaaDoorFJ
namespace Go.Proofs.YtfgocdeaanalgaaDoor
open Go.RowKit

set_option maxRecDepth 100000 in
set_option maxHeartbeats 4000000 in
theorem told_two (k : Nat) (hk : k < 13) (a : Int) (nm : List UInt8) (b o n cc : Nat) (e m : Nat) (least : Int) (w : World) (he : e < n) (hf : formedB ⟨(k : Int) + 11, a, nm⟩ = true)
    (d0 : w.cell? ⟨b, o + e * 3, none⟩ = some (.int .i64 ((k : Int) + 11))) (d1 : w.cell? ⟨b, o + e * 3 + 1, none⟩ = some (.int .i64 a)) (d2 : w.cell? ⟨b, o + e * 3 + 2, none⟩ = some (bstr nm))
    (h1 : 1 ≤ e) (hm : 1 ≤ m) (hme : m ≤ e) (hn : n ≤ 32) (x y : List UInt8) (hx : x.length ≤ 1000) (hy : y.length ≤ 1000)
    (HB : ∀ W, Below w.heap.size w W → Calls Tryd.prog 34 #[.slice (some ⟨b, o, none⟩) n cc, .int .i64 ((e : Int) - 1)] W fun q w' => q = .returned (.int .i64 m) ∧ Below W.heap.size W w')
    (HL : ∀ W, Below w.heap.size w W → Calls Tryd.prog 22 #[.slice (some ⟨b, o, none⟩) n cc, .int .i64 ((m : Int) - 1), .int .i64 (if (tabAt k).2.2 = 3 then 4 else (tabAt k).2.2)] W (ToldPost x W))
    (HR : ∀ W, Below w.heap.size w W → Calls Tryd.prog 22 #[.slice (some ⟨b, o, none⟩) n cc, .int .i64 ((e : Int) - 1), .int .i64 ((tabAt k).2.2 + 1)] W (ToldPost y W)) :
    Calls Tryd.prog 22 #[.slice (some ⟨b, o, none⟩) n cc, .int .i64 e, .int .i64 least] w (ToldPost (inP (x ++ (tabAt k).2.1 ++ y) (tabAt k).2.2 least) w) := by
  have hnm := formed_name hf
  have hops := fun W => refOperands_any ⟨(k : Int) + 11, a, nm⟩ W (by omega)
  rw [opsR_yes hf, operN_bin (o := (k : Int) + 11) ⟨by omega, by omega⟩] at hops
  simp only at hops hnm
  have HSG := Lib.hid (sg_bin hk)
  obtain ⟨q1, q2⟩ := tab_str k
  have q3 := tab_len k
  generalize tabAt k = tk at HSG HL HR q1 q2 q3 ⊢
  obtain ⟨oi, ol, os⟩ := tk
  simp only at HSG HL HR q1 q2 q3 ⊢
  obtain ⟨OT, hOT⟩ : ∃ OT : ByteArray, (⟨ol.toArray⟩ : ByteArray) = OT := ⟨_, rfl⟩
  have hOs : OT.size ≤ 2 := by rw [← hOT, size_list]; exact q3
  rw [hOT] at HSG
  have HOT := Lib.hid hOT
  obtain ⟨X, hX⟩ : ∃ X : ByteArray, (⟨nm.toArray⟩ : ByteArray) = X := ⟨_, rfl⟩
  have hb : bstr nm = .string X := by rw [← hX]; rfl
  rw [hb] at d2 hops
  have HOP := Lib.hid hops
  obtain ⟨hW, hWs, hd⟩ := cell_new w (.int .i64 ((k : Int) + 11)) (.int .i64 a) (.string X) 38
  have HW := Lib.hid hW; have HWS := Lib.hid hWs; have HD := Lib.hid hd
  have HBG := Lib.hid HB; have HLL := Lib.hid HL; have HRR := Lib.hid HR
  obtain ⟨Y1, hY1⟩ : ∃ Y : ByteArray, (⟨x.toArray⟩ : ByteArray) = Y := ⟨_, rfl⟩
  have hYb1 : bstr x = .string Y1 := by rw [← hY1]; rfl
  obtain ⟨Y2, hY2⟩ : ∃ Y : ByteArray, (⟨y.toArray⟩ : ByteArray) = Y := ⟨_, rfl⟩
  have hYb2 : bstr y = .string Y2 := by rw [← hY2]; rfl
  have HYB1 := Lib.hid hYb1; have HYB2 := Lib.hid hYb2
  have hs1 : Y1.size ≤ 1000 := by rw [← hY1, size_list]; exact hx
  have hs2 : Y2.size ≤ 1000 := by rw [← hY2, size_list]; exact hy
  have HY1 := Lib.hid hY1; have HY2 := Lib.hid hY2
  have s1 : ∀ W : World, (Op.stringOp .add Y1 OT).run Tryd.prog W = .ok (.string (Y1 ++ OT)) W := fun W => run_string_add_sum (P := Tryd.prog) (w := W) _ _ (by omega)
  have s2 : ∀ W : World, (Op.stringOp .add (Y1 ++ OT) Y2).run Tryd.prog W = .ok (.string (Y1 ++ OT ++ Y2)) W := fun W => run_string_add_sum (P := Tryd.prog) (w := W) _ _ (by rw [ByteArray.size_append]; omega)
  have s3 : ∀ W : World, (Op.stringOp .add ⟨#[40]⟩ (Y1 ++ OT ++ Y2)).run Tryd.prog W = .ok (.string (⟨#[40]⟩ ++ (Y1 ++ OT ++ Y2))) W := fun W => run_string_add_sum (P := Tryd.prog) (w := W) _ _ (by rw [ByteArray.size_append, ByteArray.size_append]; show 1 + _ ≤ _; omega)
  have s4 : ∀ W : World, (Op.stringOp .add (⟨#[40]⟩ ++ (Y1 ++ OT ++ Y2)) ⟨#[41]⟩).run Tryd.prog W = .ok (.string (⟨#[40]⟩ ++ (Y1 ++ OT ++ Y2) ++ ⟨#[41]⟩)) W := fun W => run_string_add_sum (P := Tryd.prog) (w := W) _ _ (by rw [ByteArray.size_append, ByteArray.size_append, ByteArray.size_append]; show 1 + _ + 1 ≤ _; omega)
  have hsum : Y1 ++ OT ++ Y2 = ⟨(x ++ ol ++ y).toArray⟩ := by rw [← hY1, ← hOT, ← hY2, bytes_join, bytes_join]
  have HSUM := Lib.hid hsum
  clear hb hX hops hf hW hWs hd hnm HB HL HR hY1 hYb1 hY2 hYb2 hx hy hOT hsum hs1 hs2 hOs q3
  by_cases h3 : os = 3
  · subst h3
    by_cases hlt : (3 : Int) < least
    · have hlt' : decide ((3 : Int) < least) = true := decide_eq_true hlt
      have HFIN : Hid (⟨#[40]⟩ ++ (Y1 ++ OT ++ Y2) ++ ⟨#[41]⟩ = (⟨(inP (x ++ ol ++ y) 3 least).toArray⟩ : ByteArray)) := by
        unfold inP
        rw [if_pos hlt, HSUM.out]
        exact (congrArg (· ++ (⟨#[41]⟩ : ByteArray)) (bytes_join [40] _)).trans (bytes_join _ [41])
      go_enter Tryd.func22, Tryd.ntmps22
      go_wp2_with fail
      refine (HSG.out _).mono ?_
      rintro x w2 ⟨rfl, hb2⟩
      have HB2 := Lib.hid (HW.out.trans (hb2.mono (by rw [HWS.out]; omega)))
      have HD2 := Lib.hid ((hb2.block _ (by rw [HWS.out]; omega)).trans HD.out)
      clear hb2
      obtain ⟨k0, k1, k2⟩ := cells3_at HD2.out
      go_wp2_with fail
      refine (HOP.out _).mono ?_
      rintro x w3 ⟨rfl, hb3⟩
      have HB3 := Lib.hid (HB2.out.trans (hb3.mono HB2.out.size))
      have HD3 := Lib.hid ((hb3.block _ (lt_of_block HD2.out)).trans HD2.out)
      clear hb3 k0 k1 k2
      obtain ⟨k0, k1, k2⟩ := cells3_at HD3.out
      go_wp2_with fail
      refine (HBG.out _ HB3.out).mono ?_
      rintro x w4 ⟨rfl, hb4⟩
      have HB4 := Lib.hid (HB3.out.trans (hb4.mono HB3.out.size))
      clear hb4
      go_wp2_with fail
      refine (HLL.out _ HB4.out).mono ?_
      rintro x w5 ⟨rfl, hb5⟩
      rw [HYB1.out]
      have HB5 := Lib.hid (HB4.out.trans (hb5.mono HB4.out.size))
      clear hb5
      go_wp2_with fail
      refine (HRR.out _ HB5.out).mono ?_
      rintro x w6 ⟨rfl, hb6⟩
      rw [HYB2.out]
      have HB6 := Lib.hid (HB5.out.trans (hb6.mono HB5.out.size))
      clear hb6
      go_wp2
      go_ret
      exact ToldPost.of HFIN.out HB6.out
    · have hlt' : decide ((3 : Int) < least) = false := decide_eq_false hlt
      have HFIN : Hid (Y1 ++ OT ++ Y2 = (⟨(inP (x ++ ol ++ y) 3 least).toArray⟩ : ByteArray)) := by
        unfold inP
        rw [if_neg hlt, HSUM.out]; exact rfl
      go_enter Tryd.func22, Tryd.ntmps22
      go_wp2_with fail
      refine (HSG.out _).mono ?_
      rintro x w2 ⟨rfl, hb2⟩
      have HB2 := Lib.hid (HW.out.trans (hb2.mono (by rw [HWS.out]; omega)))
      have HD2 := Lib.hid ((hb2.block _ (by rw [HWS.out]; omega)).trans HD.out)
      clear hb2
      obtain ⟨k0, k1, k2⟩ := cells3_at HD2.out
      go_wp2_with fail
      refine (HOP.out _).mono ?_
      rintro x w3 ⟨rfl, hb3⟩
      have HB3 := Lib.hid (HB2.out.trans (hb3.mono HB2.out.size))
      have HD3 := Lib.hid ((hb3.block _ (lt_of_block HD2.out)).trans HD2.out)
      clear hb3 k0 k1 k2
      obtain ⟨k0, k1, k2⟩ := cells3_at HD3.out
      go_wp2_with fail
      refine (HBG.out _ HB3.out).mono ?_
      rintro x w4 ⟨rfl, hb4⟩
      have HB4 := Lib.hid (HB3.out.trans (hb4.mono HB3.out.size))
      clear hb4
      go_wp2_with fail
      refine (HLL.out _ HB4.out).mono ?_
      rintro x w5 ⟨rfl, hb5⟩
      rw [HYB1.out]
      have HB5 := Lib.hid (HB4.out.trans (hb5.mono HB4.out.size))
      clear hb5
      go_wp2_with fail
      refine (HRR.out _ HB5.out).mono ?_
      rintro x w6 ⟨rfl, hb6⟩
      rw [HYB2.out]
      have HB6 := Lib.hid (HB5.out.trans (hb6.mono HB5.out.size))
      clear hb6
      go_wp2
      go_ret
      exact ToldPost.of HFIN.out HB6.out
  · have h3' : (os == 3) = false := beq_eq_false_iff_ne.2 h3
    have HE3 : Hid ((if os = 3 then (4 : Int) else os) = os) := if_neg h3
    clear h3
    by_cases hlt : os < least
    · have hlt' : decide (os < least) = true := decide_eq_true hlt
      have HFIN : Hid (⟨#[40]⟩ ++ (Y1 ++ OT ++ Y2) ++ ⟨#[41]⟩ = (⟨(inP (x ++ ol ++ y) os least).toArray⟩ : ByteArray)) := by
        unfold inP
        rw [if_pos hlt, HSUM.out]
        exact (congrArg (· ++ (⟨#[41]⟩ : ByteArray)) (bytes_join [40] _)).trans (bytes_join _ [41])
      have HLN := fun W hW => HLL.out W hW
      rw [HE3.out] at HLN
      have HLM := Lib.hid HLN; clear HLN
      go_enter Tryd.func22, Tryd.ntmps22
      go_wp2_with fail
      refine (HSG.out _).mono ?_
      rintro x w2 ⟨rfl, hb2⟩
      have HB2 := Lib.hid (HW.out.trans (hb2.mono (by rw [HWS.out]; omega)))
      have HD2 := Lib.hid ((hb2.block _ (by rw [HWS.out]; omega)).trans HD.out)
      clear hb2
      obtain ⟨k0, k1, k2⟩ := cells3_at HD2.out
      go_wp2_with fail
      refine (HOP.out _).mono ?_
      rintro x w3 ⟨rfl, hb3⟩
      have HB3 := Lib.hid (HB2.out.trans (hb3.mono HB2.out.size))
      have HD3 := Lib.hid ((hb3.block _ (lt_of_block HD2.out)).trans HD2.out)
      clear hb3 k0 k1 k2
      obtain ⟨k0, k1, k2⟩ := cells3_at HD3.out
      go_wp2_with fail
      refine (HBG.out _ HB3.out).mono ?_
      rintro x w4 ⟨rfl, hb4⟩
      have HB4 := Lib.hid (HB3.out.trans (hb4.mono HB3.out.size))
      clear hb4
      go_wp2_with fail
      refine (HLM.out _ HB4.out).mono ?_
      rintro x w5 ⟨rfl, hb5⟩
      rw [HYB1.out]
      have HB5 := Lib.hid (HB4.out.trans (hb5.mono HB4.out.size))
      clear hb5
      go_wp2_with fail
      refine (HRR.out _ HB5.out).mono ?_
      rintro x w6 ⟨rfl, hb6⟩
      rw [HYB2.out]
      have HB6 := Lib.hid (HB5.out.trans (hb6.mono HB5.out.size))
      clear hb6
      go_wp2
      go_ret
      exact ToldPost.of HFIN.out HB6.out
    · have hlt' : decide (os < least) = false := decide_eq_false hlt
      have HFIN : Hid (Y1 ++ OT ++ Y2 = (⟨(inP (x ++ ol ++ y) os least).toArray⟩ : ByteArray)) := by
        unfold inP
        rw [if_neg hlt, HSUM.out]; exact rfl
      have HLN := fun W hW => HLL.out W hW
      rw [HE3.out] at HLN
      have HLM := Lib.hid HLN; clear HLN
      go_enter Tryd.func22, Tryd.ntmps22
      go_wp2_with fail
      refine (HSG.out _).mono ?_
      rintro x w2 ⟨rfl, hb2⟩
      have HB2 := Lib.hid (HW.out.trans (hb2.mono (by rw [HWS.out]; omega)))
      have HD2 := Lib.hid ((hb2.block _ (by rw [HWS.out]; omega)).trans HD.out)
      clear hb2
      obtain ⟨k0, k1, k2⟩ := cells3_at HD2.out
      go_wp2_with fail
      refine (HOP.out _).mono ?_
      rintro x w3 ⟨rfl, hb3⟩
      have HB3 := Lib.hid (HB2.out.trans (hb3.mono HB2.out.size))
      have HD3 := Lib.hid ((hb3.block _ (lt_of_block HD2.out)).trans HD2.out)
      clear hb3 k0 k1 k2
      obtain ⟨k0, k1, k2⟩ := cells3_at HD3.out
      go_wp2_with fail
      refine (HBG.out _ HB3.out).mono ?_
      rintro x w4 ⟨rfl, hb4⟩
      have HB4 := Lib.hid (HB3.out.trans (hb4.mono HB3.out.size))
      clear hb4
      go_wp2_with fail
      refine (HLM.out _ HB4.out).mono ?_
      rintro x w5 ⟨rfl, hb5⟩
      rw [HYB1.out]
      have HB5 := Lib.hid (HB4.out.trans (hb5.mono HB4.out.size))
      clear hb5
      go_wp2_with fail
      refine (HRR.out _ HB5.out).mono ?_
      rintro x w6 ⟨rfl, hb6⟩
      rw [HYB2.out]
      have HB6 := Lib.hid (HB5.out.trans (hb6.mono HB5.out.size))
      clear hb6
      go_wp2
      go_ret
      exact ToldPost.of HFIN.out HB6.out
end Go.Proofs.YtfgocdeaanalgaaDoor
