/- The law ExprNormal walked. -/
import Derived.Test.YtfgocdeaanalgaaDoorF7
import Derived.Test.YtfgocdeaanalgaaDoorF9
namespace Go.Proofs.YtfgocdeaanalgaaDoor
open Go.RowKit

theorem normal_bad (s : ByteArray) (w : World) (p : Nat) (e : Int) (he : e = 1 ∨ e = 4) (hP : parseP s.data.toList = ([], p, e)) (hs : s.size ≤ 140737488355328) (hO : Ops w) (hL : Laid w) :
    Calls Tryd.prog 7 #[.string s] w fun e w' => e = .returned (.bool true) ∧ Below w.heap.size w w' := by
  have HOL : Hid (Ops w ∧ Laid w) := ⟨hO, hL⟩
  have HPA := Lib.hid (parse_any s w hO (by omega))
  have HP := Lib.hid hP
  clear hO hL hP
  rcases he with rfl | rfl
  all_goals
    go_enter Tryd.func7, Tryd.ntmps7
    go_wp2_with fail
    refine HPA.out.mono ?_
    rintro e w1 ⟨v1, rfl, h1⟩
    rw [HP.out] at h1 ⊢
    obtain ⟨A, c, rfl⟩ := own_slice h1.own
    have H1 := Lib.hid h1; clear h1
    have HW := Lib.hid (wakes_any w1 (HOL.out.1.below H1.out.below) (HOL.out.2.below H1.out.below))
    go_wp2_with fail
    refine HW.out.mono ?_
    rintro e w2 ⟨rfl, hb2⟩
    have HB2 := Lib.hid (H1.out.below.trans (hb2.mono H1.out.below.size)); clear hb2
    go_wp2
    go_ret
    exact ⟨rfl, HB2.out⟩

set_option maxRecDepth 100000 in
set_option maxHeartbeats 2000000 in
theorem normal_good (s : ByteArray) (w : World) (t : T) (hok : OkT t) (h32 : (post t).length ≤ 32) (hlen : (pcT t).1.length ≤ s.data.toList.length) (hP : parseP s.data.toList = (post t, 0, 0)) (hs : s.size ≤ 140737488355328) (hO : Ops w) (hL : Laid w) :
    Calls Tryd.prog 7 #[.string s] w fun e w' => e = .returned (.bool true) ∧ Below w.heap.size w w' := by
  have HOL : Hid (Ops w ∧ Laid w) := ⟨hO, hL⟩
  have HPA := Lib.hid (parse_any s w hO (by omega))
  have HP := Lib.hid hP
  clear hO hL hP
  obtain ⟨Tx, hT⟩ : ∃ T : ByteArray, (⟨(pcT t).1.toArray⟩ : ByteArray) = T := ⟨_, rfl⟩
  have hTl : Tx.data.toList = (pcT t).1 := by rw [← hT]
  have hTs : Tx.size ≤ s.size := by rw [← sz0 Tx, ← sz0 s, hTl]; exact hlen
  have hTi : (Tx.size : Int) ≤ (s.size : Int) := by omega
  have HTP : Hid (parseP Tx.data.toList = (post t, 0, 0)) := by rw [hTl]; exact read_text hok h32
  have hsh := tree_show hok h32
  have HT : Hid ((⟨(showP (post t)).1.toArray⟩ : ByteArray) = Tx) := by rw [hsh]; exact hT
  have HE : Hid ((showP (post t)).2 = 0) := by rw [hsh]; exact rfl
  have HRT := Lib.hid (tree_right hok h32)
  generalize post t = cs at *
  clear hok hT hTl hsh hlen
  go_enter Tryd.func7, Tryd.ntmps7
  go_wp2_with fail
  refine HPA.out.mono ?_
  rintro e w1 ⟨v1, rfl, h1⟩
  rw [HP.out] at h1 ⊢
  have H1 := Lib.hid h1; clear h1
  have HW := Lib.hid (wakes_any w1 (HOL.out.1.below H1.out.below) (HOL.out.2.below H1.out.below))
  go_wp2_with fail
  refine HW.out.mono ?_
  rintro e w2 ⟨rfl, hb2⟩
  have HB2 := Lib.hid (H1.out.below.trans (hb2.mono H1.out.below.size))
  have HR2 := Lib.hid (H1.out.rd.below hb2); clear hb2
  go_wp2_with fail
  refine (show_any _ _ w2 HR2.out (by omega) (HOL.out.1.below HB2.out) (HOL.out.2.below HB2.out)).mono ?_
  rintro e w3 ⟨rfl, hb3⟩
  simp only
  rw [HT.out, HE.out]
  have HB3 := Lib.hid (HB2.out.trans (hb3.mono HB2.out.size))
  have HR3 := Lib.hid (HR2.out.below hb3); clear hb3
  have HPB := Lib.hid (parse_any Tx w3 (HOL.out.1.below HB3.out) (by omega))
  go_wp2_with fail
  refine HPB.out.mono ?_
  rintro e w4 ⟨v4, rfl, h4⟩
  rw [HTP.out] at h4 ⊢
  have HB4 := Lib.hid (HB3.out.trans (h4.below.mono HB3.out.size))
  have HR4 := Lib.hid (HR3.out.below h4.below)
  have HM4 := Lib.hid h4.rd; clear h4
  go_wp2_with fail
  refine (show_any _ _ w4 HM4.out (by omega) (HOL.out.1.below HB4.out) (HOL.out.2.below HB4.out)).mono ?_
  rintro e w5 ⟨rfl, hb5⟩
  simp only
  rw [HT.out, HE.out]
  have HB5 := Lib.hid (HB4.out.trans (hb5.mono HB4.out.size))
  have HR5 := Lib.hid (HR4.out.below hb5)
  have HM5 := Lib.hid (HM4.out.below hb5); clear hb5
  go_wp2_with fail
  refine (right_any _ _ w5 HR5.out (by omega)).mono ?_
  rintro e w6 ⟨rfl, hb6⟩
  simp only
  rw [HRT.out]
  have HB6 := Lib.hid (HB5.out.trans (hb6.mono HB5.out.size))
  have HR6 := Lib.hid (HR5.out.below hb6)
  have HM6 := Lib.hid (HM5.out.below hb6); clear hb6
  go_wp2_with fail
  refine (same_any _ _ _ _ w6 HR6.out HM6.out (by omega)).mono ?_
  rintro e w7 ⟨rfl, n, rfl⟩
  rw [decide_eq_true rfl]
  go_wp2
  go_ret
  exact ⟨rfl, ⟨HB6.out.os, HB6.out.tape, HB6.out.output, HB6.out.size, HB6.out.block⟩⟩

theorem normal_law (s : ByteArray) (w : World) (hs : s.size ≤ 140737488355328) (hO : Ops w) (hL : Laid w) :
    Calls Tryd.prog 7 #[.string s] w fun e w' => e = .returned (.bool true) ∧ Below w.heap.size w w' := by
  by_cases he : (parseP s.data.toList).2.2 = 0
  · obtain ⟨hp0, t, hok, hcs, h32, hlen⟩ := parse_sound he
    refine normal_good s w t hok h32 hlen ?_ hs hO hL
    rw [← hcs, ← hp0, ← he]
  · have hn := parse_none he
    refine normal_bad s w (parseP s.data.toList).2.1 (parseP s.data.toList).2.2 ((parse_err _).resolve_left he) ?_ hs hO hL
    rw [← hn]
end Go.Proofs.YtfgocdeaanalgaaDoor
