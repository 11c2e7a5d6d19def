/- The document's Name, words.Name at every text. -/
import Derived.Test.YtmpelnbhlhifeaaN2
namespace Go.Proofs.Ytmpelnbhlhifeaa
open Go.RowKit

section
open Go.RowKit

theorem str_is {s : ByteArray} {l : List UInt8} (h : s.data.toList = l) : s.toList = l := by rw [Lib.toList_data, h]

theorem refName_no (s : ByteArray) (w : World) (h : s.size < 1 ∨ 12 < s.size ∨ takenB s.data.toList = true) :
    Calls Try.prog 19 #[.string s] w fun e w' => e = .returned (.bool false) ∧ w = w' := by
  by_cases h1 : s.size < 1
  · have h1' : (s.size : Int) < 1 := by omega
    clear h h1
    go_enter Try.func19, Try.ntmps19
    go_wp2
    go_ret
    exact ⟨rfl, rfl⟩
  · by_cases h2 : 12 < s.size
    · have h2' : (12 : Int) < s.size := by omega
      clear h h2
      go_enter Try.func19, Try.ntmps19
      go_wp2
      go_ret
      exact ⟨rfl, rfl⟩
    · have h3 := h.resolve_left h1 |>.resolve_left h2
      clear h
      unfold takenB at h3
      simp only [Bool.or_eq_true, beq_iff_eq] at h3
      rcases h3 with (((h3 | h3) | h3) | h3) | h3
      all_goals
        have e : s = ⟨s.data.toList.toArray⟩ := by apply ByteArray.ext; simp
        rw [h3] at e
        clear h3 h1 h2
        subst e
        go_enter Try.func19, Try.ntmps19
        go_wp2
        go_ret
        exact ⟨rfl, rfl⟩

/-- the bytes ahead of place j stand as in a name -/
def Pn (l : List UInt8) (j : Nat) : Prop := j = 0 ∨ ((∃ h : 0 < l.length, isLB l[0] = true) ∧ Oks l (j - 1))
theorem Pn.first {l : List UInt8} (h : 0 < l.length) (hc : isLB l[0] = true) : Pn l (0 + 1) := Or.inr ⟨⟨h, hc⟩, Oks.zero _⟩
theorem Pn.step {l : List UInt8} {j : Nat} (h : Pn l j) (h0 : 0 < j) (hj : j < l.length) (hc : okB l[j] = true) : Pn l (j + 1) := by
  rcases h with h | ⟨h1, h2⟩
  · omega
  · refine Or.inr ⟨h1, ?_⟩
    obtain ⟨k, rfl⟩ : ∃ k, j = k + 1 := ⟨j - 1, by omega⟩
    exact h2.step hj hc
theorem Pn.stop {l : List UInt8} {j : Nat} (h : Pn l j) (hj : j = l.length) (h0 : 0 < j) (h12 : j ≤ 12) (ht : takenB l = false) : nameB l = true := by
  rcases h with h | ⟨⟨h1, h2⟩, h3⟩
  · omega
  · obtain ⟨c, r, e, hr⟩ := h3.all (by omega)
    have hc : isLB c = true := by simp only [e, List.getElem_cons_zero] at h2; exact h2
    rw [nameB_end e hc (by rw [e] at hj; simp at hj; omega) hr, ht]; rfl
theorem Pn.bad {l : List UInt8} {j : Nat} (hj : j < l.length) (hc : okB l[j] = false) (h0 : 0 < j) : nameB l = false := by
  obtain ⟨k, rfl⟩ : ∃ k, j = k + 1 := ⟨j - 1, by omega⟩
  exact nameB_bad hj hc
theorem Pn.bad0 {l : List UInt8} (hj : 0 < l.length) (hc : isLB l[0] = false) : nameB l = false := nameB_first (fun _ => hc)

theorem okB_letter {c : UInt8} (h : isLB c = true) : okB c = true := by simp [okB, h]

set_option maxHeartbeats 1600000 in
theorem refName_go (s : ByteArray) (w : World) (h1 : ¬ s.size < 1) (h2 : ¬ 12 < s.size) (ht : takenB s.data.toList = false) :
    Calls Try.prog 19 #[.string s] w fun e w' => e = .returned (.bool (nameB s.data.toList)) ∧ w = w' := by
  have hl : s.data.toList.length = s.size := (Lib.size_eq s).symm
  have h1d : decide ((s.size : Int) < 1) = false := decide_eq_false (by omega)
  have h2d : decide ((12 : Int) < s.size) = false := decide_eq_false (by omega)
  have HT := Lib.hid ht
  unfold takenB at ht
  simp only [Bool.or_eq_false_iff] at ht
  obtain ⟨⟨⟨⟨h3, h4⟩, h5⟩, h6⟩, h7⟩ := ht
  rw [← Lib.toList_data] at h3 h4 h5 h6 h7
  go_enter Try.func19, Try.ntmps19
  go_wp2
  go_loop [2, 3, 4, 5] (fun x2 i _ _ => x2 = .bool false ∧ ∃ j : Nat, Pn s.data.toList j ∧ j ≤ s.size ∧ i = .int .i64 j) (fun _ i _ _ => s.size - (intOf i).toNat)
  case atStart => exact ⟨rfl, 0, Or.inl rfl, by omega, rfl⟩
  case round =>
    obtain ⟨rfl, j, hp, hj, rfl⟩ := hrel
    by_cases hlt : j < s.size
    · have hge : s.data.toList[j]'(by omega) = s[j] := at_list s j hlt _
      cases hc : isLB s[j]
      · have hn : (s[j].toNat : Int) < 97 ∨ (97 ≤ (s[j].toNat : Int) ∧ decide ((s[j].toNat : Int) ≤ 122) = false) := by
          have : ¬ (97 ≤ s[j].toNat ∧ s[j].toNat ≤ 122) := of_decide_eq_false hc
          rw [decide_eq_false_iff_not]
          omega
        by_cases h0 : j = 0
        · have hf : nameB s.data.toList = false := by
            subst h0
            exact Pn.bad0 (by omega) (by rw [hge]; exact hc)
          have h0' : ((j : Int) == 0) = true := beq_iff_eq.2 (by omega)
          clear h0
          have HF := Lib.hid hf; clear hf hge hc
          rcases hn with hn | ⟨hn, hn'⟩
          all_goals
            go_wp2
            all_goals first
              | (go_ret; exact ⟨ret_bool HF.out.symm, rfl⟩)
              | (exfalso; omega)
        · have h0' : ((j : Int) == 0) = false := beq_eq_false_iff_ne.2 (by omega)
          cases hok : okB s[j]
          · have hf : nameB s.data.toList = false := Pn.bad (j := j) (by omega) (by rw [hge]; exact hok) (by omega)
            have hd : (s[j].toNat : Int) < 48 ∨ (48 ≤ (s[j].toNat : Int) ∧ decide ((s[j].toNat : Int) ≤ 57) = false) := by
              rw [decide_eq_false_iff_not]
              unfold okB at hok
              simp only [Bool.or_eq_false_iff] at hok
              have : ¬ (48 ≤ s[j].toNat ∧ s[j].toNat ≤ 57) := of_decide_eq_false hok.1.2
              omega
            have h95 : ((s[j].toNat : Int) == 95) = false := by
              unfold okB at hok
              simp only [Bool.or_eq_false_iff] at hok
              exact byte_not (k := 95) (by decide) (beq_eq_false_iff_ne.1 hok.2)
            have HF := Lib.hid hf; clear hf hge hc hok
            rcases hn with hn | ⟨hn, hn'⟩
            all_goals
              rcases hd with hd | ⟨hd, hd'⟩
              all_goals
                go_wp2
                all_goals first
                  | (go_ret; exact ⟨ret_bool HF.out.symm, rfl⟩)
                  | (exfalso; omega)
          · have hs : Pn s.data.toList (j + 1) := hp.step (by omega) (by omega) (by rw [hge]; exact hok)
            have hd : (48 ≤ (s[j].toNat : Int) ∧ (s[j].toNat : Int) ≤ 57) ∨ ((s[j].toNat : Int) == 95) = true := by
              unfold okB at hok
              rw [hc, Bool.false_or, Bool.or_eq_true] at hok
              rcases hok with h | h
              · have := isD_iff.1 h
                exact Or.inl (by omega)
              · exact Or.inr (byte_is (k := 95) (by decide) (beq_iff_eq.1 h))
            clear hge hc hok hp
            rcases hn with hn | ⟨hn, hn'⟩
            all_goals
              rcases hd with ⟨hd, hd'⟩ | hd
              all_goals
                go_wp2
                all_goals
                  go_round
                  case rel => exact ⟨rfl, j + 1, hs, by omega, rfl⟩
                  case measure => simp [intOf]; omega
      · have hs : Pn s.data.toList (j + 1) := by
          by_cases h0 : j = 0
          · subst h0; exact Pn.first (by omega) (by rw [hge]; exact hc)
          · exact hp.step (by omega) (by omega) (by rw [hge]; exact okB_letter hc)
        have hb := isLB_iff.1 hc
        have hb1 : (97 : Int) ≤ s[j].toNat := by omega
        have hb2 : (s[j].toNat : Int) ≤ 122 := by omega
        clear hge hc hp hb
        go_wp2
        all_goals
          go_round
          case rel => exact ⟨rfl, j + 1, hs, by omega, rfl⟩
          case measure => simp [intOf]; omega
    · have hf : nameB s.data.toList = true := hp.stop (by omega) (by omega) (by omega) HT.out
      have HF := Lib.hid hf; clear hf
      go_wp2
      go_ret
      exact ⟨ret_bool HF.out.symm, rfl⟩

theorem takenB_nameB {l : List UInt8} (h : takenB l = true) : nameB l = false := by
  cases l with
  | nil => rfl
  | cons c r => simp [nameB, h]

theorem refName_any (s : ByteArray) (w : World) :
    Calls Try.prog 19 #[.string s] w fun e w' => e = .returned (.bool (nameB s.data.toList)) ∧ w = w' := by
  have hl : s.data.toList.length = s.size := (Lib.size_eq s).symm
  by_cases h1 : s.size < 1
  · have e : nameB s.data.toList = false := by rw [List.eq_nil_of_length_eq_zero (by omega : s.data.toList.length = 0)]; rfl
    rw [e]; exact refName_no s w (Or.inl h1)
  · by_cases h2 : 12 < s.size
    · rw [nameB_long (by omega)]; exact refName_no s w (Or.inr (Or.inl h2))
    · cases h3 : takenB s.data.toList
      · exact refName_go s w h1 h2 h3
      · rw [takenB_nameB h3]; exact refName_no s w (Or.inr (Or.inr h3))

theorem name_any (s : ByteArray) (w : World) :
    Calls Try.prog 29 #[.string s] w fun e w' => e = .returned (.bool (nameB s.data.toList)) ∧ w = w' := by
  have hl : s.data.toList.length = s.size := (Lib.size_eq s).symm
  by_cases h1 : 0 < s.size
  · by_cases h2 : 12 < s.size
    · rw [nameB_long (by omega)]; exact name_no s w (Or.inr (Or.inl h2))
    · cases h3 : isLB s[0]
      · rw [nameB_first (fun h0 => by rw [at_list s 0 h1]; exact h3)]; exact name_no s w (Or.inr (Or.inr ⟨h1, h3⟩))
      · exact name_go s w h1 h2 h3
  · have e : s.data.toList = [] := List.eq_nil_of_length_eq_zero (by omega)
    rw [e]; exact name_no s w (Or.inl e)
end
end Go.Proofs.Ytmpelnbhlhifeaa
