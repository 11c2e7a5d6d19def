/- The laws WordsNames and WordsLines walked. -/
import Derived.Test.YtjjfmffmcchlmaaDoorLa
namespace Go.Proofs.YtjjfmffmcchlmaaDoor
open Go.RowKit

theorem done_data (s : ByteArray) : ((⟨#[100, 111, 110, 101, 46]⟩ : ByteArray) ++ s).data.toList = [100, 111, 110, 101, 46] ++ s.data.toList := by
  rw [ByteArray.data_append, Array.toList_append]
theorem done_size (s : ByteArray) : ((⟨#[100, 111, 110, 101, 46]⟩ : ByteArray) ++ s).size = 5 + s.size := by
  rw [Lib.size_eq, done_data, List.length_append, ← Lib.size_eq]; rfl
theorem eventB_ahead (l : List UInt8) : eventB ([100, 111, 110, 101, 46] ++ l) = nameB l := eventB_done rfl

theorem names_law (s : ByteArray) (w : World) (hs : s.size ≤ 140737488355328) (hL : Laid w) :
    Calls Tryd.prog 5 #[.string s] w fun e w' => e = .returned (.bool true) ∧ Below w.heap.size w w' := by
  have HL := Lib.hid hL; clear hL
  obtain ⟨D, hD⟩ : ∃ D : ByteArray, D = (⟨#[100, 111, 110, 101, 46]⟩ : ByteArray) ++ s := ⟨_, rfl⟩
  have hDe : eventB D.data.toList = nameB s.data.toList := by rw [hD, done_data, eventB_ahead]
  have hDs : D.size ≤ 281474976710656 := by rw [hD, done_size]; omega
  have hsum : ((⟨#[100, 111, 110, 101, 46]⟩ : ByteArray).size : Int) + (s.size : Int) ≤ 9223372036854775807 := by
    show ((5 : Nat) : Int) + (s.size : Int) ≤ _; omega
  have HD := Lib.hid hD; have HDE := Lib.hid hDe; have HDS := Lib.hid hDs
  clear hD hDe hDs
  cases hn : nameB s.data.toList
  all_goals
    have HN := Lib.hid hn; clear hn
    go_enter Tryd.func5, Tryd.ntmps5
    go_wp2_with fail
    refine (wakes_any w HL.out).mono ?_
    rintro e w1 ⟨rfl, hb⟩
    have HB := Lib.hid hb; clear hb
    go_wp2_with fail
    refine (name_any s w1).mono ?_
    rintro e w' ⟨rfl, rfl⟩
    rw [HN.out]
    go_wp2_with fail
    refine (refName_any s w1).mono ?_
    rintro e w' ⟨rfl, rfl⟩
    rw [HN.out]
    go_wp2_with fail
    refine (event_any s w1).mono ?_
    rintro e w' ⟨rfl, rfl⟩
    go_wp2_with fail
    refine (refEvent_any s w1 (by omega)).mono ?_
    rintro e w' ⟨rfl, rfl⟩
    go_wp2_with fail
    rw [← HD.out]
    refine (event_any D w1).mono ?_
    rintro e w' ⟨rfl, rfl⟩
    rw [HDE.out, HN.out]
    go_wp2_with fail
    refine (refName_any s w1).mono ?_
    rintro e w' ⟨rfl, rfl⟩
    rw [HN.out]
    go_wp2_with fail
  · rw [← HD.out]
    refine (refEvent_any D w1 HDS.out).mono ?_
    rintro e w' ⟨rfl, rfl⟩
    rw [HDE.out, HN.out]
    go_wp2
    go_ret
    exact ⟨rfl, HB.out⟩
  · go_ret
    exact ⟨rfl, HB.out⟩

theorem Mem.on {w w1 w2 : World} {xs : List (List UInt8)} {v : Value} (h : Mem w xs v w1) (hb : Below w1.heap.size w1 w2) : Mem w xs v w2 :=
  ⟨own_below h.own hb, h.below.trans (hb.mono h.below.size)⟩

theorem lineW_few (l : List UInt8) : (lineW l).length ≤ l.length + 1 := by
  have : ∀ l : List UInt8, (pieces l).length ≤ l.length + 1 := by
    intro l
    induction l with
    | nil => simp [pieces]
    | cons c r ih =>
      unfold pieces
      split
      · simp; omega
      · unfold glue; split <;> simp_all <;> omega
  have := this (l.drop (depthL l))
  rw [List.length_drop] at this
  unfold lineW; omega

theorem drewN_below (w : World) (n : Nat) : Below w.heap.size w (w.drewN n) := ⟨rfl, rfl, rfl, Nat.le_refl _, fun _ _ => rfl⟩

theorem lines_law (s : ByteArray) (w : World) (hs : s.size ≤ 4294967296) (hL : Laid w) :
    Calls Tryd.prog 3 #[.string s] w fun e w' => e = .returned (.bool true) ∧ Below w.heap.size w w' := by
  have HL := Lib.hid hL; clear hL
  have hfew := lineW_few s.data.toList
  rw [← Lib.size_eq] at hfew
  go_enter Tryd.func3, Tryd.ntmps3
  go_wp2_with fail
  refine (line_any s w hs).mono ?_
  rintro e w1 (⟨hb, v, rfl, hM⟩ | ⟨hb, rfl, hB⟩)
  · have HB := Lib.hid hb; have HM := Lib.hid hM; clear hb hM
    go_wp2_with fail
    refine (refLine_any s w1 hs).mono ?_
    rintro e w2 (⟨_, v2, rfl, hM2⟩ | ⟨hb, _⟩)
    · have HM2 := Lib.hid hM2; clear hM2
      go_wp2_with fail
      refine (wakes_any w2 ((HL.out.below HM.out.below).below HM2.out.below)).mono ?_
      rintro e w3 ⟨rfl, hb3⟩
      have HB3 := Lib.hid hb3; clear hb3
      go_wp2_with fail
      refine (same_any v v2 (lineW s.data.toList) (lineW s.data.toList) w3 (((HM.out.on HM2.out.below).on HB3.out).rd) ((HM2.out.on HB3.out).rd) (by omega)).mono ?_
      rintro e w4 ⟨rfl, n, rfl⟩
      rw [decide_eq_true (rfl : lineW s.data.toList = lineW s.data.toList)]
      go_wp2
      go_ret
      exact ⟨rfl, (((HM.out.on HM2.out.below).on HB3.out).on (drewN_below w3 n)).below⟩
    · rw [HB.out] at hb; cases hb
  · have HB := Lib.hid hb; have HBL := Lib.hid hB; clear hb hB
    go_wp2_with fail
    refine (refLine_any s w1 hs).mono ?_
    rintro e w2 (⟨hb, _⟩ | ⟨_, rfl, hB2⟩)
    · rw [HB.out] at hb; cases hb
    · have HB2 := Lib.hid hB2; clear hB2
      go_wp2_with fail
      refine (wakes_any w2 ((HL.out.below HBL.out).below HB2.out)).mono ?_
      rintro e w3 ⟨rfl, hb3⟩
      have HB3 := Lib.hid hb3; clear hb3
      go_wp2_with fail
      refine (same_any _ _ [] [] w3 (RdS.nil _) (RdS.nil _) (by decide)).mono ?_
      rintro e w4 ⟨rfl, n, rfl⟩
      rw [decide_eq_true (rfl : ([] : List (List UInt8)) = [])]
      go_wp2
      go_ret
      refine ⟨rfl, ?_⟩
      have h1 := HBL.out.trans (HB2.out.mono HBL.out.size)
      have h2 := h1.trans (HB3.out.mono h1.size)
      exact h2.trans ((drewN_below w3 n).mono h2.size)
end Go.Proofs.YtjjfmffmcchlmaaDoor
