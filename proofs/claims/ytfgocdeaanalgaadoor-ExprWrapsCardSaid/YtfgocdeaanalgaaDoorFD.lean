/- The law ExprWraps walked: a text at fault. -/
import Derived.Test.YtfgocdeaanalgaaDoorFC
namespace Go.Proofs.YtfgocdeaanalgaaDoor
open Go.RowKit

set_option maxRecDepth 100000 in
set_option maxHeartbeats 2000000 in
theorem wraps_form (s : ByteArray) (w : World) (cs : List CM) (p : Nat) (hP : parseP s.data.toList = (cs, p, 1)) (hO : Ops w) (hL : Laid w) (h5 : s.size ≤ 500) :
    Calls Tryd.prog 8 #[.string s] w fun e w' => e = .returned (.bool true) ∧ Below w.heap.size w w' := by
  have HOL : Hid (Ops w ∧ Laid w) := ⟨hO, hL⟩
  have HPA := Lib.hid (parse_any s w hO (by omega))
  have HP := Lib.hid hP
  obtain ⟨⟨cs2, q, f⟩, hPW⟩ : ∃ r, parseP ((⟨#[40]⟩ : ByteArray) ++ s ++ (⟨#[41]⟩ : ByteArray)).data.toList = r := ⟨_, rfl⟩
  have hbad : p < s.size → nx s.data.toList p ≠ 41 → cs2 = [] ∧ q = p + 1 ∧ f = 1 := by
    intro h1 h2
    rw [wrap_bytes, wrap_bad (by rw [sz0]; exact h5) hP (by rw [sz0]; exact h1) h2] at hPW
    injection hPW with e1 e2
    injection e2 with e2 e3
    exact ⟨e1.symm, e2.symm, e3.symm⟩
  have HPW := Lib.hid hPW
  have h5' : decide ((500 : Int) < (s.size : Int)) = false := decide_eq_false (by omega)
  have h5'' : decide (500 < s.size) = false := decide_eq_false (by omega)
  have k1 : ∀ W : World, (Op.stringOp .add ⟨#[40]⟩ s).run Tryd.prog W = .ok (.string (⟨#[40]⟩ ++ s)) W := fun W => run_string_add_sum (P := Tryd.prog) (w := W) _ _ (by show 1 + s.size ≤ _; omega)
  have k2 : ∀ W : World, (Op.stringOp .add (⟨#[40]⟩ ++ s) ⟨#[41]⟩).run Tryd.prog W = .ok (.string (⟨#[40]⟩ ++ s ++ ⟨#[41]⟩)) W := fun W => run_string_add_sum (P := Tryd.prog) (w := W) _ _ (by rw [ByteArray.size_append]; show 1 + s.size + 1 ≤ _; omega)
  have hws : ((⟨#[40]⟩ : ByteArray) ++ s ++ (⟨#[41]⟩ : ByteArray)).size ≤ 9223372036854775807 := by
    rw [ByteArray.size_append, ByteArray.size_append]; show 1 + s.size + 1 ≤ _; omega
  have HWS := Lib.hid hws
  clear hO hL hP hws hPW
  by_cases hlt : p < s.size
  · have hge : decide ((s.size : Int) ≤ (p : Int)) = false := decide_eq_false (by omega)
    have hge2 : decide (s.size ≤ p) = false := decide_eq_false (by omega)
    have hx := lst_at s p hlt
    by_cases h41 : nx s.data.toList p = 41
    · rw [hx] at h41
      clear hbad hx
      have h41' : (((s[p]'hlt).toNat : Int) == 41) = true := by rw [h41]; rfl
      go_enter Tryd.func8, Tryd.ntmps8
      go_wp2_with fail
      refine HPA.out.mono ?_
      rintro e w1 ⟨v1, rfl, h1⟩
      rw [HP.out] at h1 ⊢
      have H1 := Lib.hid h1; clear h1
      have HW := Lib.hid (wakes_any w1 (HOL.out.1.below H1.out.below) (HOL.out.2.below H1.out.below))
      go_wp2_with fail
      refine HW.out.mono ?_
      rintro e w2 ⟨rfl, hb2⟩
      have HB2 := Lib.hid (H1.out.below.trans (hb2.mono H1.out.below.size)); clear hb2
      have HPB := Lib.hid (parse_any _ w2 (HOL.out.1.below HB2.out) HWS.out)
      go_wp2_with fail
      refine HPB.out.mono ?_
      rintro e w3 ⟨v3, rfl, h3⟩
      rw [HPW.out] at h3 ⊢
      have HB3 := Lib.hid (HB2.out.trans (h3.below.mono HB2.out.size)); clear h3
      go_wp2
      go_ret
      exact ⟨rfl, HB3.out⟩
    · obtain ⟨rfl, rfl, rfl⟩ := hbad hlt h41
      rw [hx] at h41
      clear hx
      have h41' : (((s[p]'hlt).toNat : Int) == 41) = false := int_ne (fun e => h41 (UInt8.toNat_inj.1 (by show _ = 41; omega)))
      go_enter Tryd.func8, Tryd.ntmps8
      go_wp2_with fail
      refine HPA.out.mono ?_
      rintro e w1 ⟨v1, rfl, h1⟩
      rw [HP.out] at h1 ⊢
      have H1 := Lib.hid h1; clear h1
      have HW := Lib.hid (wakes_any w1 (HOL.out.1.below H1.out.below) (HOL.out.2.below H1.out.below))
      go_wp2_with fail
      refine HW.out.mono ?_
      rintro e w2 ⟨rfl, hb2⟩
      have HB2 := Lib.hid (H1.out.below.trans (hb2.mono H1.out.below.size)); clear hb2
      have HPB := Lib.hid (parse_any _ w2 (HOL.out.1.below HB2.out) HWS.out)
      go_wp2_with fail
      refine HPB.out.mono ?_
      rintro e w3 ⟨v3, rfl, h3⟩
      rw [HPW.out] at h3 ⊢
      have HB3 := Lib.hid (HB2.out.trans (h3.below.mono HB2.out.size)); clear h3
      go_wp2
      go_ret
      exact ⟨rfl, HB3.out⟩
  · have hge : (s.size : Int) ≤ (p : Int) := by omega
    have hge' : s.size ≤ p := by omega
    clear hbad
    go_enter Tryd.func8, Tryd.ntmps8
    go_wp2_with fail
    refine HPA.out.mono ?_
    rintro e w1 ⟨v1, rfl, h1⟩
    rw [HP.out] at h1 ⊢
    have H1 := Lib.hid h1; clear h1
    have HW := Lib.hid (wakes_any w1 (HOL.out.1.below H1.out.below) (HOL.out.2.below H1.out.below))
    go_wp2_with fail
    refine HW.out.mono ?_
    rintro e w2 ⟨rfl, hb2⟩
    have HB2 := Lib.hid (H1.out.below.trans (hb2.mono H1.out.below.size)); clear hb2
    have HPB := Lib.hid (parse_any _ w2 (HOL.out.1.below HB2.out) HWS.out)
    go_wp2_with fail
    refine HPB.out.mono ?_
    rintro e w3 ⟨v3, rfl, h3⟩
    rw [HPW.out] at h3 ⊢
    have HB3 := Lib.hid (HB2.out.trans (h3.below.mono HB2.out.size)); clear h3
    go_wp2
    go_ret
    exact ⟨rfl, HB3.out⟩

theorem parse_err' (s : List UInt8) : (parseP s).2.2 = 0 ∨ (parseP s).2.2 = 1 ∨ (parseP s).2.2 = 4 := by
  unfold parseP
  split
  · exact Or.inr (Or.inr rfl)
  · split
    · exact Or.inr (Or.inl rfl)
    · split
      · exact Or.inr (Or.inr rfl)
      · exact Or.inl rfl
theorem wraps_law (s : ByteArray) (w : World) (hs : s.size ≤ 140737488355328) (hO : Ops w) (hL : Laid w) :
    Calls Tryd.prog 8 #[.string s] w fun e w' => e = .returned (.bool true) ∧ Below w.heap.size w w' := by
  obtain ⟨⟨cs, p, e⟩, hP⟩ : ∃ r, parseP s.data.toList = r := ⟨_, rfl⟩
  have he := parse_err' s.data.toList
  rw [hP] at he
  simp only at he
  by_cases h5 : 500 < s.size
  · exact wraps_long s w cs p e hP hs hO hL h5
  · rcases he with rfl | rfl | rfl
    · exact wraps_good s w cs p 0 hP hs hO hL (by omega) rfl
    · exact wraps_form s w cs p hP hO hL (by omega)
    · exact wraps_cells s w cs p 4 hP hs hO hL (by omega) rfl
end Go.Proofs.YtfgocdeaanalgaaDoor
