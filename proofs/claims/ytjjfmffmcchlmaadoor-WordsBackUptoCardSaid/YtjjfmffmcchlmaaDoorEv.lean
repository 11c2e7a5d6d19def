/- Event of words and of the document at every text. -/
import Derived.Test.YtjjfmffmcchlmaaDoorN5
import Derived.Test.YtjjfmffmcchlmaaDoorShelf
namespace Go.Proofs.YtjjfmffmcchlmaaDoor
open Go.RowKit

def eventB (l : List UInt8) : Bool := nameB (Lib.trimPrefix l [100, 111, 110, 101, 46])

theorem event_any (s : ByteArray) (w : World) :
    Calls Tryd.prog 15 #[.string s] w fun e w' => e = .returned (.bool (eventB s.data.toList)) ∧ w = w' := by
  go_enter Tryd.func15, Tryd.ntmps15
  go_wp2_with fail
  refine (Tryd.strings_TrimPrefix s ⟨#[100, 111, 110, 101, 46]⟩ w).mono ?_
  rintro e w' ⟨rfl, rfl⟩
  go_wp2_with fail
  refine (name_any _ _).mono ?_
  rintro e w' ⟨rfl, rfl⟩
  go_wp2
  go_ret
  exact ⟨rfl, rfl⟩

/-- names have no dot -/
theorem nameB_nodot {l : List UInt8} (h : nameB l = true) : ∀ c ∈ l, c ≠ 46 := by
  cases l with
  | nil => intro c hc; simp at hc
  | cons a r =>
    simp only [nameB, Bool.and_eq_true] at h
    obtain ⟨⟨⟨_, ha⟩, hr⟩, _⟩ := h
    intro c hc e
    subst e
    rcases List.mem_cons.1 hc with hc | hc
    · subst hc; revert ha; decide
    · have := List.all_eq_true.1 hr _ hc
      revert this; decide

theorem hasPrefix_iff (l p : List UInt8) : Lib.hasPrefix l p = true ↔ l.take p.length = p := by
  unfold Lib.hasPrefix
  rw [List.isPrefixOf_iff_prefix, List.prefix_iff_eq_take]
  exact ⟨fun h => h.symm, fun h => h.symm⟩

theorem nameB_done {l : List UInt8} (h : l.take 5 = [100, 111, 110, 101, 46]) : nameB l = false := by
  cases hn : nameB l
  · rfl
  · have hm : (46 : UInt8) ∈ l.take 5 := by rw [h]; decide
    exact absurd rfl (nameB_nodot hn 46 (List.mem_of_mem_take hm))

theorem eventB_name {l : List UInt8} (h : nameB l = true) : eventB l = true := by
  unfold eventB Lib.trimPrefix
  rw [if_neg]
  · exact h
  · intro hp
    have := nameB_done ((hasPrefix_iff _ _).1 hp)
    rw [h] at this; cases this
theorem eventB_short {l : List UInt8} (h : nameB l = false) (h5 : ¬ 5 < l.length) : eventB l = false := by
  unfold eventB Lib.trimPrefix
  split
  · rw [List.drop_of_length_le (by simp; omega)]; rfl
  · exact h
theorem eventB_other {l : List UInt8} (h : nameB l = false) (h5 : l.take 5 ≠ [100, 111, 110, 101, 46]) : eventB l = false := by
  unfold eventB Lib.trimPrefix
  rw [if_neg]
  · exact h
  · intro hp
    exact h5 ((hasPrefix_iff _ _).1 hp)
theorem eventB_done {l : List UInt8} (h5 : l.take 5 = [100, 111, 110, 101, 46]) : eventB l = nameB (l.drop 5) := by
  unfold eventB Lib.trimPrefix
  rw [if_pos ((hasPrefix_iff l [100, 111, 110, 101, 46]).2 h5)]; rfl

theorem refEvent_any (s : ByteArray) (w : World) (hs : s.size ≤ 281474976710656) :
    Calls Tryd.prog 16 #[.string s] w fun e w' => e = .returned (.bool (eventB s.data.toList)) ∧ w = w' := by
  have hl : s.data.toList.length = s.size := (Lib.size_eq s).symm
  cases hn : nameB s.data.toList
  · by_cases h5 : 5 < s.size
    · have et : (s.extract 0 5).data.toList = s.data.toList.take 5 := by rw [Lib.extract_data, List.drop_zero]
      have ed : (s.extract 5 s.size).data.toList = s.data.toList.drop 5 := by rw [Lib.extract_to_end]
      by_cases hd : s.data.toList.take 5 = [100, 111, 110, 101, 46]
      · have hr := eventB_done hd
        have ht : ((s.extract 0 5).toList == [100, 111, 110, 101, 46]) = true := by rw [Lib.toList_data, et, hd]; rfl
        have HR := Lib.hid hr
        clear hr hd et ed
        go_enter Tryd.func16, Tryd.ntmps16
        go_wp2_with (go_at_call 14; refine (refName_any _ _).mono ?_; rintro e w' ⟨rfl, rfl⟩)
        go_ret
        refine ⟨ret_bool ?_, rfl⟩
        rw [HR.out, List.take_of_length_le (by rw [List.length_drop]; omega)]
      · have hr := eventB_other hn hd
        have ht : ((s.extract 0 5).toList == [100, 111, 110, 101, 46]) = false := by
          rw [Lib.toList_data, et]; exact beq_eq_false_iff_ne.2 hd
        have HR := Lib.hid hr
        clear hr hd et ed
        go_enter Tryd.func16, Tryd.ntmps16
        go_wp2_with (go_at_call 14; refine (refName_any _ _).mono ?_; rintro e w' ⟨rfl, rfl⟩)
        go_ret
        exact ⟨ret_bool HR.out.symm, rfl⟩
    · have hr := eventB_short hn (by omega)
      have HR := Lib.hid hr
      clear hr
      go_enter Tryd.func16, Tryd.ntmps16
      go_wp2_with (go_at_call 14; refine (refName_any _ _).mono ?_; rintro e w' ⟨rfl, rfl⟩)
      go_ret
      exact ⟨ret_bool HR.out.symm, rfl⟩
  · have hr := eventB_name hn
    have HR := Lib.hid hr
    clear hr
    go_enter Tryd.func16, Tryd.ntmps16
    go_wp2_with (go_at_call 14; refine (refName_any _ _).mono ?_; rintro e w' ⟨rfl, rfl⟩)
    go_ret
    exact ⟨ret_bool HR.out.symm, rfl⟩
end Go.Proofs.YtjjfmffmcchlmaaDoor
