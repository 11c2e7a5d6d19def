/- Layer 15 as the program has it: Open. -/
import Derived.Test.YtlbhkendbngmaaaJt
import Derived.BigRegion
import Derived.Deep.RegionLaw
namespace Go.Proofs.Ytlbhkendbngmaaa.Wi
open Go.RowKit
set_option maxRecDepth 100000

set_option maxHeartbeats 1600000 in
theorem open_any (s : ByteArray) (w : World) (hs : s.size ≤ 140737488355328) :
    Calls Try.prog 37 #[.string s] w fun e w' => e = .returned (.tuple #[.string ⟨(openC s.data.toList).1.toArray⟩, .int .i64 (openC s.data.toList).2]) ∧ Below w.heap.size w w' := by
  by_cases h4 : s.size < 4
  · have ho : Hid (openC s.data.toList = ([], 1)) := by unfold openC; exact if_pos (by rw [← Lib.size_eq]; exact h4)
    have h9 : (s.size : Int) < 4 := by omega
    clear h4
    go_enter Try.func37, Try.ntmps37
    go_wp2
    go_ret2
    rw [ho.out]
    exact ⟨rfl, Below.refl _ _⟩
  obtain ⟨n, hn⟩ : ∃ n, s.size - 4 = n := ⟨_, rfl⟩
  have h9 : ¬ (s.size : Int) < 4 := by omega
  have hsub : IntKind.i64.wrap ((s.size : Int) - 4) = (n : Int) := by rw [show ((s.size : Int) - 4) = (n : Int) by omega]; exact IntWalk.i64_in _ (by omega)
  have hnl : n ≤ s.size := by omega
  have hnl2 : (n : Int) ≤ (s.size : Int) := by omega
  have ho : openC s.data.toList = if sealC (s.data.toList.take n) = s.data.toList then (s.data.toList.take n, 0) else ([], 13) := by
    unfold openC
    rw [if_neg (by rw [← Lib.size_eq]; exact h4), ← Lib.size_eq, hn]
  obtain ⟨T, hT⟩ : ∃ T : ByteArray, T = s.extract 0 n := ⟨_, rfl⟩
  obtain ⟨U, hU⟩ : ∃ U : ByteArray, U = s.extract n s.size := ⟨_, rfl⟩
  have hTl : T.data.toList = s.data.toList.take n := by rw [hT]; simp [ByteArray.data_extract]
  have hUl : U.data.toList = s.data.toList.drop n := by
    have e := ext_drop s.data.toList n
    rw [show (⟨s.data.toList.toArray⟩ : ByteArray) = s from rfl, ← Lib.size_eq] at e
    rw [hU, e]
  have hTs : T.size ≤ 4611686018427387904 := by rw [Lib.size_eq, hTl, List.length_take, ← Lib.size_eq]; omega
  have HR := Lib.hid (fun w => reckoned_any T w hTs)
  have HT := Lib.hid (fun w => text_any (sumC T.data.toList) (sumC_lt _) w)
  have HO := Lib.hid ho
  have HTT := Lib.hid hT; have HUU := Lib.hid hU; have HTL := Lib.hid hTl; have HUL := Lib.hid hUl; have HTS := Lib.hid hTs
  clear ho h4 hn hT hU hTl hUl hTs
  go_enter Try.func37, Try.ntmps37
  go_upto_region 4 with fail
  go_region_with (first
    | (go_at_call 58; rw [← HTT.out]; refine (HR.out _).mono ?_; rintro e w1 ⟨rfl, rfl⟩)
    | (go_at_call 57; refine (HT.out _).mono ?_; rintro e w1 ⟨rfl, rfl⟩))
  rw [← HUU.out]
  have hst : sealC (s.data.toList.take n) = s.data.toList ↔ U.data.toList = leC (sumC T.data.toList) := by
    rw [HTL.out, HUL.out]
    unfold sealC
    constructor
    · intro e
      have e2 : s.data.toList.take n ++ leC (sumC (s.data.toList.take n)) = s.data.toList.take n ++ s.data.toList.drop n := by rw [List.take_append_drop]; exact e
      exact (List.append_cancel_left e2).symm
    · intro e
      rw [← e, List.take_append_drop]
  have HST := Lib.hid hst
  have HCL := Lib.hid (fun w => clone_any T w (by rw [Lib.size_eq, HTL.out, List.length_take, ← Lib.size_eq]; omega))
  obtain ⟨X, hX⟩ : ∃ X : ByteArray, X = ⟨(leC (sumC T.data.toList)).toArray⟩ := ⟨_, rfl⟩
  have HX := Lib.hid hX
  have hxl : X.data.toList = leC (sumC T.data.toList) := by rw [hX]
  have HXL := Lib.hid hxl
  obtain ⟨w1, hw1⟩ : ∃ W, W = w.alloc (.cells (tbW (sumC T.data.toList) 4) 50) := ⟨_, rfl⟩
  have hb1 : Below w.heap.size w w1 := by rw [hw1]; exact (Below.refl _ _).alloc (Nat.le_refl _) _
  have HB1 := Lib.hid hb1.drew
  rw [← hX, ← hw1]
  clear hst hX hxl hb1 hw1
  by_cases he : U.toList = leC (sumC T.data.toList)
  · have hq0 : (U.toList == leC (sumC T.data.toList)) = true := by rw [he]; simp
    have hd : openC s.data.toList = (T.data.toList, 0) := by
      rw [HO.out, if_pos (HST.out.2 (by rw [← Lib.toList_data]; exact he)), HTL.out]
    have HD := Lib.hid hd
    rw [hq0]
    clear hd
    go_wp2_with fail
    rw [← HTT.out]
    refine (HCL.out _).mono ?_
    rintro e w2 ⟨rfl, hb2⟩
    have HB2 := Lib.hid hb2
    clear hb2
    go_wp2
    go_ret2
    rw [HD.out]
    exact ⟨rfl, HB1.out.trans (HB2.out.mono HB1.out.size)⟩
  · have hq0 : (U.toList == leC (sumC T.data.toList)) = false := beq_eq_false_iff_ne.2 he
    have hd : openC s.data.toList = ([], 13) := by
      rw [HO.out, if_neg (fun k => he (by rw [Lib.toList_data]; exact HST.out.1 k))]
    have HD := Lib.hid hd
    rw [hq0]
    clear hd
    go_wp2
    go_ret2
    rw [HD.out]
    exact ⟨rfl, HB1.out⟩
end Go.Proofs.Ytlbhkendbngmaaa.Wi
