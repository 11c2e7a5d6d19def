/- words.Name at every text. -/
import Derived.Test.YtmpelnbhlhifeaaNm
namespace Go.Proofs.Ytmpelnbhlhifeaa
open Go.RowKit

def nameB (l : List UInt8) : Bool := match l with | [] => false | c :: r => decide (r.length < 12) && isLB c && r.all okB && !takenB l

theorem ret_bool {a b : Bool} (h : a = b) : Ending.returned (.bool a) = .returned (.bool b) := by rw [h]

theorem at_list (s : ByteArray) (k : Nat) (_h : k < s.size) (h' : k < s.data.toList.length) : s.data.toList[k] = s[k] := by simp; rfl

theorem byte_is {c : UInt8} {k : Nat} (hk : k < 256) (h : c = UInt8.ofNat k) : ((c.toNat : Int) == (k : Nat)) = true := by
  rw [h, UInt8.toNat_ofNat', Nat.mod_eq_of_lt (show k < 2 ^ 8 from hk)]; exact beq_self_eq_true _
theorem byte_not {c : UInt8} {k : Nat} (hk : k < 256) (h : c ≠ UInt8.ofNat k) : ((c.toNat : Int) == (k : Nat)) = false := by
  apply beq_eq_false_iff_ne.2
  intro e
  apply h
  apply UInt8.toNat_inj.1
  rw [UInt8.toNat_ofNat', Nat.mod_eq_of_lt (show k < 2 ^ 8 from hk)]; omega

theorem nameB_end {l : List UInt8} {c : UInt8} {r : List UInt8} (e : l = c :: r) (h1 : isLB c = true) (h2 : r.length < 12) (h3 : r.all okB = true) : nameB l = !takenB l := by
  subst e; simp [nameB, h1, h2, h3]
theorem nameB_long {l : List UInt8} (h : 12 < l.length) : nameB l = false := by
  cases l with
  | nil => rfl
  | cons c r =>
    have : ¬ r.length < 12 := by simp at h; omega
    simp [nameB, this]
theorem nameB_first {l : List UInt8} (h : ∀ h0 : 0 < l.length, isLB l[0] = false) : nameB l = false := by
  cases l with
  | nil => rfl
  | cons c r =>
    have : isLB c = false := h (by simp)
    simp [nameB, this]
theorem nameB_bad {l : List UInt8} {k : Nat} (hk : k + 1 < l.length) (h : okB l[k + 1] = false) : nameB l = false := by
  cases l with
  | nil => rfl
  | cons c r =>
    have : r.all okB = false := by
      rw [List.all_eq_false]
      simp only [List.getElem_cons_succ] at h
      simp only [List.length_cons] at hk
      exact ⟨r[k]'(by omega), List.getElem_mem _, by rw [h]; decide⟩
    simp [nameB, this]

/-- the bytes behind the first, up to place k, may stand in a name -/
def Oks (l : List UInt8) (k : Nat) : Prop := ((l.drop 1).take k).all okB = true
theorem Oks.zero (l : List UInt8) : Oks l 0 := by simp [Oks]
theorem Oks.step {l : List UInt8} {k : Nat} (h : Oks l k) (hk : k + 1 < l.length) (ho : okB l[k + 1] = true) : Oks l (k + 1) := by
  unfold Oks at *
  have e : (l.drop 1).take (k + 1) = (l.drop 1).take k ++ [l[k + 1]] := by
    rw [List.take_succ_eq_append_getElem (by simp; omega)]
    simp
  rw [e, List.all_append, h]
  simp [ho]
theorem Oks.all {l : List UInt8} {k : Nat} (h : Oks l k) (hk : k + 1 = l.length) : ∃ c r, l = c :: r ∧ r.all okB = true := by
  cases l with
  | nil => simp at hk
  | cons c r =>
    refine ⟨c, r, rfl, ?_⟩
    unfold Oks at h
    simpa [List.take_of_length_le (show r.length ≤ k by simp at hk; omega)] using h

def NmAt (s : ByteArray) (k : Nat) (a : Act) : Prop := ∃ u1 u4 u5 u6 u7 u8 u9 u10 u11 u12 u13 u14 u15 u16 u17 u18 u19 u20 u21 u22 u23 u24 u25 u26 u27 u28 u29 u30 u31 u32 u33 u34 u35 u36 u37 u38 u39 u40 u41 u42 : Value,  a = { tmps := #[.string s, u1, .bool false, .int .i64 k, u4, u5, u6, u7, u8, u9, u10, u11, u12, u13, u14, u15, u16, u17, u18, u19, u20, u21, u22, u23, u24, u25, u26, u27, u28, u29, u30, u31, u32, u33, u34, u35, u36, u37, u38, u39, u40, u41, u42], defers := [] }
def kOf (a : Act) (i : Nat) : Nat := match a.tmps.getD i undef with | .int _ n => n.toNat | _ => 0

theorem name_no (s : ByteArray) (w : World) (h : s.data.toList = [] ∨ 12 < s.size ∨ ∃ h0 : 0 < s.size, isLB s[0] = false) :
    Calls Try.prog 29 #[.string s] w fun e w' => e = .returned (.bool false) ∧ w = w' := by
  by_cases h1 : s.data.toList = []
  · have hne : s.toList.isEmpty = true := by rw [Lib.toList_data, h1]; rfl
    clear h h1
    go_enter Try.func29, Try.ntmps29
    go_wp2
    go_step3
    go_wp2
    rw [Exit.noGoto_ret]
    go_ret
    exact ⟨rfl, rfl⟩
  · have hne : s.toList.isEmpty = false := by
      rw [Lib.toList_data]; simpa using h1
    by_cases h2 : 12 < s.size
    · clear h h1
      have h2' : (12 : Int) < s.size := by omega
      go_enter Try.func29, Try.ntmps29
      go_wp2
      go_step3
      go_wp2
      rw [Exit.noGoto_ret]
      go_ret
      exact ⟨rfl, rfl⟩
    · obtain ⟨h0, h3⟩ := h.resolve_left h1 |>.resolve_left h2
      clear h h1
      go_enter Try.func29, Try.ntmps29
      go_wp2
      go_step3
      go_wp2_with (go_at_call 35; refine (isLetter_any _ _).mono ?_; rintro e w' ⟨rfl, rfl⟩)
      rw [Exit.noGoto_ret]
      go_ret
      exact ⟨rfl, rfl⟩

theorem name_go (s : ByteArray) (w : World) (h1 : 0 < s.size) (h2 : ¬ 12 < s.size) (h3 : isLB s[0] = true) :
    Calls Try.prog 29 #[.string s] w fun e w' => e = .returned (.bool (nameB s.data.toList)) ∧ w = w' := by
  have hl : s.data.toList.length = s.size := (Lib.size_eq s).symm
  have hne : s.toList.isEmpty = false := by
    rw [Lib.toList_data]
    cases h : s.data.toList with
    | nil => rw [h] at hl; simp at hl; omega
    | cons a r => rfl
  have hend : ∀ k, Oks s.data.toList k → k + 1 = s.size → nameB s.data.toList = !takenB s.data.toList := by
    intro k ho hk
    obtain ⟨c, r, e, hr⟩ := ho.all (by omega)
    have h0 : isLB s.data.toList[0] = true := by rw [at_list s 0 h1]; exact h3
    refine nameB_end e ?_ ?_ hr
    · simp only [e, List.getElem_cons_zero] at h0; exact h0
    · rw [e] at hl; simp at hl; omega
  have hbad : ∀ k (hk : k + 1 < s.size), okB s[k + 1] = false → nameB s.data.toList = false := by
    intro k hk ho
    exact nameB_bad (k := k) (by omega) (by rw [at_list s _ hk]; exact ho)
  have hstep : ∀ k (hk : k + 1 < s.size), okB s[k + 1] = true → Oks s.data.toList k → Oks s.data.toList (k + 1) := by
    intro k hk ho h
    exact h.step (by omega) (by rw [at_list s _ hk]; exact ho)
  have HE := Lib.hid hend; have HB := Lib.hid hbad; have HS := Lib.hid hstep
  clear hend hbad hstep hl
  go_enter Try.func29, Try.ntmps29
  go_wp2
  refine wp_scope_labels (fun l a w' => w = w' ∧ l = 0 ∧ ∃ k, k < s.size ∧ Oks s.data.toList k ∧ NmAt s k a) (fun _ a _ => s.size - kOf a 3) ?_ ?_
  · rintro l a w' ⟨rfl, rfl, k, hk, HO, u1, u4, u5, u6, u7, u8, u9, u10, u11, u12, u13, u14, u15, u16, u17, u18, u19, u20, u21, u22, u23, u24, u25, u26, u27, u28, u29, u30, u31, u32, u33, u34, u35, u36, u37, u38, u39, u40, u41, u42, rfl⟩
    refine ⟨_, rfl, ?_⟩
    intro H
    clear H
    by_cases he : k + 1 = s.size
    · have he' : (k : Int) + 1 = s.size := by omega
      have HR := Lib.hid (HE.out k HO he)
      clear he
      go_wp2_with (go_at_call 36; refine (isTaken_any _ _).mono ?_; rintro e w' ⟨rfl, rfl⟩)
      go_ret
      exact ⟨ret_bool HR.out.symm, rfl⟩
    · have hlt : k + 1 < s.size := by omega
      have he' : ¬ ((k : Int) + 1 = s.size) := by omega
      clear he
      cases hok : okB s[k + 1]
      · have HR := Lib.hid (HB.out k hlt hok)
        unfold okB at hok
        simp only [Bool.or_eq_false_iff] at hok
        obtain ⟨⟨hb1, hb2⟩, hb3⟩ := hok
        have hb4 : ((s[k + 1].toNat : Int) == 95) = false := by
          apply beq_eq_false_iff_ne.2
          intro e
          apply (beq_eq_false_iff_ne.1 hb3)
          apply UInt8.toNat_inj.1
          show _ = 95
          omega
        clear hb3
        go_wp2_with (first | (go_at_call 35; refine (isLetter_any _ _).mono ?_; rintro e w' ⟨rfl, rfl⟩) | (go_at_call 37; refine (isDigit_any _ _).mono ?_; rintro e w' ⟨rfl, rfl⟩))
        go_ret
        exact ⟨ret_bool HR.out.symm, rfl⟩
      · have HR := Lib.hid (HS.out k hlt hok HO)
        have h3 : isLB s[k + 1] = true ∨ (isLB s[k + 1] = false ∧ isD s[k + 1] = true) ∨ (isLB s[k + 1] = false ∧ isD s[k + 1] = false ∧ ((s[k + 1].toNat : Int) == 95) = true) := by
          unfold okB at hok
          cases hb1 : isLB s[k + 1]
          · cases hb2 : isD s[k + 1]
            · rw [hb1, hb2] at hok
              have := beq_iff_eq.1 hok
              exact Or.inr (Or.inr ⟨rfl, rfl, by rw [this]; rfl⟩)
            · exact Or.inr (Or.inl ⟨rfl, rfl⟩)
          · exact Or.inl rfl
        clear hok
        rcases h3 with hb1 | ⟨hb1, hb2⟩ | ⟨hb1, hb2, hb3⟩
        all_goals
          go_wp2_with (first | (go_at_call 35; refine (isLetter_any _ _).mono ?_; rintro e w' ⟨rfl, rfl⟩) | (go_at_call 37; refine (isDigit_any _ _).mono ?_; rintro e w' ⟨rfl, rfl⟩))
          go_step3
          refine ⟨⟨rfl, rfl, k + 1, hlt, HR.out, _, _, _, _, _, _, _, _, _, _, _, _, _, _, _, _, _, _, _, _, _, _, _, _, _, _, _, _, _, _, _, _, _, _, _, _, _, _, _, _, rfl⟩, ?_⟩
          simp [kOf]; omega
  · intro H
    have HH := Lib.hid H; clear H
    go_wp2_with (go_at_call 35; refine (isLetter_any _ _).mono ?_; rintro e w' ⟨rfl, rfl⟩)
    go_step3
    refine walk_on (by assumption) (HH.out 0 _ _ _ rfl ⟨rfl, rfl, 0, h1, Oks.zero _, _, _, _, _, _, _, _, _, _, _, _, _, _, _, _, _, _, _, _, _, _, _, _, _, _, _, _, _, _, _, _, _, _, _, _, _, _, _, _, _, rfl⟩)
end Go.Proofs.Ytmpelnbhlhifeaa
