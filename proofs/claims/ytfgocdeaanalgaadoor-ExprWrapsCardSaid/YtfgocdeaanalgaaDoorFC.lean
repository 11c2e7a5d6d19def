/- The law ExprWraps walked. -/
import Derived.Test.YtfgocdeaanalgaaDoorF7
import Derived.Test.YtfgocdeaanalgaaDoorFB
namespace Go.Proofs.YtfgocdeaanalgaaDoor
open Go.RowKit

theorem wrap_bytes (s : ByteArray) : ((⟨#[40]⟩ : ByteArray) ++ s ++ (⟨#[41]⟩ : ByteArray)).data.toList = wrapL s.data.toList := by
  simp [wrapL, ByteArray.data_append]

theorem parse_cells (s : List UInt8) : (parseP s).1.length ≤ 32 := by
  unfold parseP
  split
  · simp
  · split
    · simp
    · split
      · simp
      · simp only; omega

section
variable (s : ByteArray) (w : World) (cs : List CM) (p : Nat) (e : Int) (hP : parseP s.data.toList = (cs, p, e)) (hs : s.size ≤ 140737488355328) (hO : Ops w) (hL : Laid w)
include hP hs hO hL

theorem wraps_long (h5 : 500 < s.size) :
    Calls Tryd.prog 8 #[.string s] w fun e w' => e = .returned (.bool true) ∧ Below w.heap.size w w' := by
  have HOL : Hid (Ops w ∧ Laid w) := ⟨hO, hL⟩
  have HPA := Lib.hid (parse_any s w hO (by omega))
  have HP := Lib.hid hP
  have h5' : (500 : Int) < (s.size : Int) := by omega
  clear hO hL hP
  go_enter Tryd.func8, Tryd.ntmps8
  go_wp2_with fail
  refine HPA.out.mono ?_
  rintro e w1 ⟨v1, rfl, h1⟩
  rw [HP.out] at h1 ⊢
  have H1 := Lib.hid h1; clear h1
  have HW := Lib.hid (wakes_any w1 (HOL.out.1.below H1.out.below) (HOL.out.2.below H1.out.below))
  go_wp2_with fail
  refine HW.out.mono ?_
  rintro e w2 ⟨rfl, hb2⟩
  have HB2 := Lib.hid (H1.out.below.trans (hb2.mono H1.out.below.size)); clear hb2
  go_wp2
  go_ret
  exact ⟨rfl, HB2.out⟩

theorem wraps_cells (h5 : s.size ≤ 500) (he : e = 4) :
    Calls Tryd.prog 8 #[.string s] w fun e w' => e = .returned (.bool true) ∧ Below w.heap.size w w' := by
  subst he
  have HOL : Hid (Ops w ∧ Laid w) := ⟨hO, hL⟩
  have HPA := Lib.hid (parse_any s w hO (by omega))
  have HP := Lib.hid hP
  have h5' : decide ((500 : Int) < (s.size : Int)) = false := decide_eq_false (by omega)
  have h5'' : decide (500 < s.size) = false := decide_eq_false (by omega)
  clear hO hL hP
  go_enter Tryd.func8, Tryd.ntmps8
  go_wp2_with fail
  refine HPA.out.mono ?_
  rintro e w1 ⟨v1, rfl, h1⟩
  rw [HP.out] at h1 ⊢
  have H1 := Lib.hid h1; clear h1
  have HW := Lib.hid (wakes_any w1 (HOL.out.1.below H1.out.below) (HOL.out.2.below H1.out.below))
  go_wp2_with fail
  refine HW.out.mono ?_
  rintro e w2 ⟨rfl, hb2⟩
  have HB2 := Lib.hid (H1.out.below.trans (hb2.mono H1.out.below.size)); clear hb2
  go_wp2
  go_ret
  exact ⟨rfl, HB2.out⟩

theorem wraps_good (h5 : s.size ≤ 500) (he : e = 0) :
    Calls Tryd.prog 8 #[.string s] w fun e w' => e = .returned (.bool true) ∧ Below w.heap.size w w' := by
  subst he
  have HOL : Hid (Ops w ∧ Laid w) := ⟨hO, hL⟩
  have HPA := Lib.hid (parse_any s w hO (by omega))
  have HP := Lib.hid hP
  have HPW : Hid (parseP ((⟨#[40]⟩ : ByteArray) ++ s ++ (⟨#[41]⟩ : ByteArray)).data.toList = (cs, 0, 0)) := by rw [wrap_bytes]; exact wrap_good (by rw [sz0]; exact h5) hP
  have hcl : cs.length ≤ 32 := by
    have := parse_cells s.data.toList
    rw [hP] at this; exact this
  have h5' : decide ((500 : Int) < (s.size : Int)) = false := decide_eq_false (by omega)
  have h5'' : decide (500 < s.size) = false := decide_eq_false (by omega)
  have k1 : ∀ W : World, (Op.stringOp .add ⟨#[40]⟩ s).run Tryd.prog W = .ok (.string (⟨#[40]⟩ ++ s)) W := fun W => run_string_add_sum (P := Tryd.prog) (w := W) _ _ (by show 1 + s.size ≤ _; omega)
  have k2 : ∀ W : World, (Op.stringOp .add (⟨#[40]⟩ ++ s) ⟨#[41]⟩).run Tryd.prog W = .ok (.string (⟨#[40]⟩ ++ s ++ ⟨#[41]⟩)) W := fun W => run_string_add_sum (P := Tryd.prog) (w := W) _ _ (by rw [ByteArray.size_append]; show 1 + s.size + 1 ≤ _; omega)
  have hws : ((⟨#[40]⟩ : ByteArray) ++ s ++ (⟨#[41]⟩ : ByteArray)).size ≤ 9223372036854775807 := by
    rw [ByteArray.size_append, ByteArray.size_append]; show 1 + s.size + 1 ≤ _; omega
  have HWS := Lib.hid hws
  clear hO hL hP hws
  go_enter Tryd.func8, Tryd.ntmps8
  go_wp2_with fail
  refine HPA.out.mono ?_
  rintro e w1 ⟨v1, rfl, h1⟩
  rw [HP.out] at h1 ⊢
  have H1 := Lib.hid h1; clear h1
  have HW := Lib.hid (wakes_any w1 (HOL.out.1.below H1.out.below) (HOL.out.2.below H1.out.below))
  go_wp2_with fail
  refine HW.out.mono ?_
  rintro e w2 ⟨rfl, hb2⟩
  have HB2 := Lib.hid (H1.out.below.trans (hb2.mono H1.out.below.size))
  have HR2 := Lib.hid (H1.out.rd.below hb2); clear hb2
  have HPB := Lib.hid (parse_any _ w2 (HOL.out.1.below HB2.out) HWS.out)
  go_wp2_with fail
  refine HPB.out.mono ?_
  rintro e w3 ⟨v3, rfl, h3⟩
  rw [HPW.out] at h3 ⊢
  have HB3 := Lib.hid (HB2.out.trans (h3.below.mono HB2.out.size))
  have HR3 := Lib.hid (HR2.out.below h3.below)
  have HM3 := Lib.hid h3.rd; clear h3
  go_wp2_with fail
  refine (same_any _ _ _ _ w3 HR3.out HM3.out (by omega)).mono ?_
  rintro e w4 ⟨rfl, n, rfl⟩
  rw [decide_eq_true rfl]
  go_wp2
  go_ret
  exact ⟨rfl, ⟨HB3.out.os, HB3.out.tape, HB3.out.output, HB3.out.size, HB3.out.block⟩⟩
end
end Go.Proofs.YtfgocdeaanalgaaDoor
