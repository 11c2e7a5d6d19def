/- kinds.variable, the document's Find and leaf: the kind of a cell without operands. -/
import Derived.Test.YtmpelnbhlhifeaaKd
namespace Go.Proofs.Ytmpelnbhlhifeaa
open Go.RowKit

theorem varK_ix (vs : List VM) (n : List UInt8) : (ixP (isV n) vs 0 = -1 ∧ varK vs n = (0, 2)) ∨ ∃ j, ∃ h : j < vs.length, ixP (isV n) vs 0 = (j : Int) ∧ varK vs n = if 1 ≤ vs[j].kd ∧ vs[j].kd ≤ 3 then (vs[j].kd, 0) else (0, 8) := by
  unfold varK
  rcases ix_find (isV n) vs 0 with ⟨h1, h2⟩ | ⟨j, hj, h1, h2⟩
  · refine Or.inl ⟨h1, ?_⟩
    have : vs.find? (fun v => decide (v.nm = n)) = none := h2
    rw [this]
  · refine Or.inr ⟨j, hj, by rw [h1]; simp, ?_⟩
    have : vs.find? (fun v => decide (v.nm = n)) = some vs[j] := h2
    rw [this]

theorem ret_pair {k : IntKind} {a b : Int} {p : Int × Int} (h : p = (a, b)) : Ending.returned (.tuple #[.int k a, .int k b]) = .returned (.tuple #[.int k p.1, .int k p.2]) := by rw [h]

set_option maxHeartbeats 1000000 in
theorem variable_any (v : Value) (vs : List VM) (N : ByteArray) (w : World) (hR : RdV w v vs) (hl : vs.length ≤ 4611686018427387904) :
    Calls Try.prog 22 #[.string N, v] w fun e w' => e = .returned (.tuple #[.int .i64 (varK vs N.data.toList).1, .int .i64 (varK vs N.data.toList).2]) ∧ Below w.heap.size w w' := by
  have hW : Below w.heap.size w (w.alloc (.cells #[.string N] 9)) := (Below.refl _ _).alloc (Nat.le_refl _) _
  have hsz : w.heap.size < (w.alloc (.cells #[.string N] 9)).heap.size := by simp
  have hcl : (w.alloc (.cells #[.string N] 9)).cell? ⟨w.heap.size, 0, none⟩ = some (.string N) := by simp
  have HI := Lib.hid (varIndex_any v vs N w.heap.size (w.alloc (.cells #[.string N] 9)) (hR.below hW) hl hsz hcl)
  have HW := Lib.hid hW
  obtain ⟨A, c, rfl⟩ := hR.form
  have HR := Lib.hid hR
  clear hR hsz hcl hW
  rcases varK_ix vs N.data.toList with ⟨h1, h2⟩ | ⟨j, hj, h1, h2⟩
  · have H1 := Lib.hid h1; have H2 := Lib.hid h2
    clear h1 h2
    go_enter Try.func22, Try.ntmps22
    go_wp2_with fail
    go_in
    go_wp2_with fail
    refine HI.out.mono ?_
    rintro e w1 ⟨rfl, hb1⟩
    rw [H1.out]
    have HB1 := Lib.hid (HW.out.trans (hb1.mono HW.out.size)); clear hb1
    go_wp2
    go_ret2
    exact ⟨ret_pair H2.out, HB1.out⟩
  · obtain ⟨x, hx⟩ : ∃ x, vs[j] = x := ⟨_, rfl⟩
    rw [hx] at h2
    have H1 := Lib.hid h1; have H2 := Lib.hid h2
    have hk : ((1 ≤ x.kd ∧ x.kd ≤ 3) ∨ x.kd < 1) ∨ 3 < x.kd := by omega
    obtain ⟨b, o, rfl, hbw, hc0, hc1, hcx⟩ := HR.out.at_ hj
    clear hc0 hcx
    rw [hx] at hc1
    have hjj : j < vs.length := hj
    clear h1 h2
    have HC := Lib.hid hc1; clear hc1
    clear hx hj
    generalize x.kd = kd at *
    rcases hk with (⟨hk1, hk2⟩ | hk) | hk
    · have hv : varK vs N.data.toList = (kd, 0) := by rw [H2.out, if_pos ⟨hk1, hk2⟩]
      have HV := Lib.hid hv
      have n1 : decide (kd < 1) = false := decide_eq_false (by omega)
      have n2 : decide (3 < kd) = false := decide_eq_false (by omega)
      clear hv
      go_enter Try.func22, Try.ntmps22
      go_wp2_with fail
      go_in
      go_wp2_with fail
      refine HI.out.mono ?_
      rintro e w1 ⟨rfl, hb1⟩
      rw [H1.out]
      have hcc := ((HW.out.trans (hb1.mono HW.out.size)).cell hbw).trans HC.out
      have HB1 := Lib.hid (HW.out.trans (hb1.mono HW.out.size)); clear hb1
      go_wp2
      go_ret2
      exact ⟨ret_pair HV.out, HB1.out⟩
    all_goals
      have hv : varK vs N.data.toList = (0, 8) := by rw [H2.out, if_neg (by omega)]
      have HV := Lib.hid hv
      clear hv
      go_enter Try.func22, Try.ntmps22
      go_wp2_with fail
      go_in
      go_wp2_with fail
      refine HI.out.mono ?_
      rintro e w1 ⟨rfl, hb1⟩
      rw [H1.out]
      have hcc := ((HW.out.trans (hb1.mono HW.out.size)).cell hbw).trans HC.out
      have HB1 := Lib.hid (HW.out.trans (hb1.mono HW.out.size)); clear hb1
      go_wp2
      go_ret2
      exact ⟨ret_pair HV.out, HB1.out⟩
end Go.Proofs.Ytmpelnbhlhifeaa
