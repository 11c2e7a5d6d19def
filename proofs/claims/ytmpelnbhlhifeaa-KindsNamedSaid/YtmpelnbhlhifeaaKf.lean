/- The document's Find and leaf; kinds.made. -/
import Derived.Test.YtmpelnbhlhifeaaKe
namespace Go.Proofs.Ytmpelnbhlhifeaa
open Go.RowKit

set_option maxHeartbeats 1000000 in
theorem refFind_any (v : Value) (vs : List VM) (N : ByteArray) (w : World) (hR : RdV w v vs) (hl : vs.length ≤ 4611686018427387904) :
    Calls Try.prog 33 #[v, .string N] w fun e w' => e = .returned (.int .i64 (ixP (isV N.data.toList) vs 0)) ∧ w = w' := by
  obtain ⟨A, c, rfl⟩ := hR.form
  have HR := Lib.hid hR; clear hR
  obtain ⟨n, hn⟩ : ∃ n, vs.length = n := ⟨_, rfl⟩
  have HN := Lib.hid hn
  rw [hn] at hl HR ⊢
  clear hn
  go_enter Try.func33, Try.ntmps33
  go_wp2
  go_loop [4, 5] (fun x4 i => x4 = .int .i64 0 ∧ ∃ k : Nat, k ≤ n ∧ i = .int .i64 k ∧ Hid (ixP (isV N.data.toList) (vs.drop k) k = ixP (isV N.data.toList) vs 0)) (fun _ i => n - (intOf i).toNat)
  case atStart => exact ⟨rfl, 0, by omega, rfl, rfl⟩
  case round =>
    obtain ⟨rfl, k, hk, rfl, HI⟩ := hrel
    by_cases hkn : k < n
    · obtain ⟨b, o, rfl, _, hc, _⟩ := HR.out.at_ (k := k) (by rw [HN.out]; exact hkn)
      have hst := ix_step (p := isV N.data.toList) (l := vs) (k := k) (by rw [HN.out]; exact hkn)
      rw [HI.out] at hst
      obtain ⟨X, hX, hXl⟩ := bstr_some (vs[k]'(by rw [HN.out]; exact hkn)).nm
      have hiv : isV N.data.toList (vs[k]'(by rw [HN.out]; exact hkn)) = decide (X.data.toList = N.data.toList) := by rw [hXl]; rfl
      rw [hiv] at hst
      rw [hX] at hc
      clear hX hXl hiv
      by_cases he : X.data.toList = N.data.toList
      · have hr : ixP (isV N.data.toList) vs 0 = k := by rw [hst, if_pos (by simp [he])]
        obtain rfl := str_eq he
        have HRR := Lib.hid hr
        clear hst hr he HI
        go_wp2
        go_ret
        exact ⟨ret_int HRR.out.symm, rfl⟩
      · have hr : ixP (isV N.data.toList) (vs.drop (k + 1)) (k + 1) = ixP (isV N.data.toList) vs 0 := by rw [hst, if_neg (by simp [he])]
        have HRR := Lib.hid hr
        have hne := str_ne he
        have hne' := str_ne (Ne.symm he)
        clear hst hr he HI
        go_wp2
        go_round
        case rel => exact ⟨rfl, k + 1, by omega, by go_num, HRR.out⟩
        case measure => simp [intOf]; omega
    · have hr : ixP (isV N.data.toList) vs 0 = -1 := by rw [← HI.out, ix_end (by rw [HN.out]; exact hkn)]
      have HRR := Lib.hid hr
      clear hr HI
      go_wp2
      go_ret
      exact ⟨ret_int HRR.out.symm, rfl⟩

set_option maxHeartbeats 2000000 in
theorem refLeaf_any (op a : Int) (X : ByteArray) (v s : Value) (vs : List VM) (ss : List (List UInt8)) (w : World) (hop : 1 ≤ op ∧ op ≤ 6) (hR : RdV w v vs) (hl : vs.length ≤ 4611686018427387904) (hS : RdW w s ss) (hsl : ss.length ≤ 4611686018427387904) :
    Calls Try.prog 27 #[.agg #[.int .i64 op, .int .i64 a, .string X], v, s] w fun e w' => e = .returned (.tuple #[.int .i64 (leafK vs ss ⟨op, a, X.data.toList⟩).1, .int .i64 (leafK vs ss ⟨op, a, X.data.toList⟩).2]) ∧ Below w.heap.size w w' := by
  have HB : Hid (∀ o : Obj, Below w.heap.size w (w.alloc o)) := fun o => (Below.refl _ _).alloc (Nat.le_refl _) o
  have HV : Hid (∀ o : Obj, RdV (w.alloc o) v vs) := fun o => hR.below (HB.out o)
  have HS : Hid (∀ o : Obj, RdW (w.alloc o) s ss) := fun o => hS.below (HB.out o)
  have HF := Lib.hid (fun W h => refFind_any v vs X W h hl)
  have HH := Lib.hid (fun W h => refHas_any s ss X W h (by omega))
  have HR := Lib.hid hR
  obtain ⟨V, cv, rfl⟩ := hR.form
  obtain ⟨S, cs, rfl⟩ := hS.form
  clear hR hS
  have h56 : op = 1 ∨ op = 2 ∨ (op = 3 ∨ op = 4) ∨ op = 5 ∨ op = 6 := by omega
  rcases h56 with rfl | rfl | h34 | rfl | rfl
  · go_enter Try.func27, Try.ntmps27
    go_wp2
    go_ret2
    exact ⟨rfl, HB.out _⟩
  · go_enter Try.func27, Try.ntmps27
    go_wp2
    go_ret2
    exact ⟨rfl, HB.out _⟩
  · rcases h34 with rfl | rfl
    all_goals
      go_enter Try.func27, Try.ntmps27
      go_wp2
      go_ret2
      exact ⟨rfl, HB.out _⟩
  · rw [show leafK vs ss ⟨5, a, X.data.toList⟩ = varK vs X.data.toList from rfl]
    rcases varK_ix vs X.data.toList with ⟨h1, h2⟩ | ⟨j, hj, h1, h2⟩
    · have H1 := Lib.hid h1; have H2 := Lib.hid h2
      clear h1 h2
      go_enter Try.func27, Try.ntmps27
      go_wp2_with fail
      refine (HF.out _ (HV.out _)).mono ?_
      rintro e w1 ⟨rfl, rfl⟩
      rw [H1.out]
      go_wp2
      go_ret2
      exact ⟨ret_pair H2.out, HB.out _⟩
    · obtain ⟨x, hx⟩ : ∃ x, vs[j] = x := ⟨_, rfl⟩
      rw [hx] at h2
      have H1 := Lib.hid h1; have H2 := Lib.hid h2
      have hk : ((1 ≤ x.kd ∧ x.kd ≤ 3) ∨ x.kd < 1) ∨ 3 < x.kd := by omega
      obtain ⟨b, o, rfl, hbw, hc0, hc1, hcx⟩ := HR.out.at_ hj
      clear hc0 hcx
      rw [hx] at hc1
      have hjj : j < vs.length := hj
      clear h1 h2 hx hj
      generalize x.kd = kd at *
      rcases hk with (⟨hk1, hk2⟩ | hk) | hk
      · have hv : varK vs X.data.toList = (kd, 0) := by rw [H2.out, if_pos ⟨hk1, hk2⟩]
        have HVK := Lib.hid hv
        have n1 : decide (kd < 1) = false := decide_eq_false (by omega)
        have n2 : decide (3 < kd) = false := decide_eq_false (by omega)
        clear hv
        go_enter Try.func27, Try.ntmps27
        go_wp2_with fail
        refine (HF.out _ (HV.out _)).mono ?_
        rintro e w1 ⟨rfl, rfl⟩
        rw [H1.out]
        go_wp2
        go_ret2
        exact ⟨ret_pair HVK.out, HB.out _⟩
      all_goals
        have hv : varK vs X.data.toList = (0, 8) := by rw [H2.out, if_neg (by omega)]
        have HVK := Lib.hid hv
        clear hv
        go_enter Try.func27, Try.ntmps27
        go_wp2_with fail
        refine (HF.out _ (HV.out _)).mono ?_
        rintro e w1 ⟨rfl, rfl⟩
        rw [H1.out]
        go_wp2
        go_ret2
        exact ⟨ret_pair HVK.out, HB.out _⟩
  · by_cases hm : X.data.toList ∈ ss
    · have HR2 : Hid (leafK vs ss ⟨6, a, X.data.toList⟩ = (2, 0)) := by
        show leafK _ _ _ = _
        unfold leafK; simp [hm]
      have HM := Lib.hid (decide_eq_true hm)
      clear hm
      go_enter Try.func27, Try.ntmps27
      go_wp2_with fail
      refine (HH.out _ (HS.out _)).mono ?_
      rintro e w1 ⟨rfl, rfl⟩
      rw [HM.out]
      go_wp2
      go_ret2
      exact ⟨ret_pair HR2.out, HB.out _⟩
    · have HR2 : Hid (leafK vs ss ⟨6, a, X.data.toList⟩ = (0, 2)) := by
        show leafK _ _ _ = _
        unfold leafK; simp [hm]
      have HM := Lib.hid (decide_eq_false hm)
      clear hm
      go_enter Try.func27, Try.ntmps27
      go_wp2_with fail
      refine (HH.out _ (HS.out _)).mono ?_
      rintro e w1 ⟨rfl, rfl⟩
      rw [HM.out]
      go_wp2
      go_ret2
      exact ⟨ret_pair HR2.out, HB.out _⟩
end Go.Proofs.Ytmpelnbhlhifeaa
