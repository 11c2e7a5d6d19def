/- The document's reader of points (package quintainref01) at every text: whole, In, Read. -/
import Derived.Test.YtimcecbnnohneaaDoorProg
import Derived.Test.YtimcecbnnohneaaDoorRd
import Derived.WalkKit
import Derived.WalkSpells
import Derived.WalkLawsBesides
import Derived.Lib.Hide
import Derived.Deep.QuietTactic
import Derived.BigQuiet
namespace Go.Proofs.YtimcecbnnohneaaDoor
open Go.RowKit

/-- where the loop of 'whole' stands: behind j bytes, with the number n, begun at f -/
structure Wl (l : List UInt8) (f j n : Nat) : Prop where
  le : f ≤ j
  len : j ≤ l.length
  small : n ≤ 10485769
  eq : wloop 0 (l.drop f) = ((wloop n (l.drop j)).1, (j - f) + (wloop n (l.drop j)).2)

theorem Wl.start (l : List UInt8) (f : Nat) (h : f ≤ l.length) : Wl l f f 0 := ⟨Nat.le_refl _, h, by omega, by simp⟩

theorem drop_at (l : List UInt8) (j : Nat) (h : j < l.length) : l.drop j = l[j] :: l.drop (j + 1) := by
  rw [List.drop_eq_getElem_cons h]

theorem Wl.step {l : List UInt8} {f j n : Nat} (h : Wl l f j n) (hj : j < l.length) (h1 : 48 ≤ l[j].toNat) (h2 : l[j].toNat ≤ 57) (hn : n ≤ 1048576) : Wl l f (j + 1) (10 * n + (l[j].toNat - 48)) := by
  obtain ⟨a, b, c, d⟩ := h
  refine ⟨by omega, hj, by omega, ?_⟩
  rw [d, drop_at l j hj, wloop_go ⟨isD_iff.2 ⟨h1, h2⟩, hn⟩]
  simp only [digv]
  congr 1; omega

theorem Wl.stop {l : List UInt8} {f j n : Nat} (h : Wl l f j n) (hs : ¬ j < l.length ∨ (∃ hj : j < l.length, ¬ (48 ≤ l[j].toNat ∧ l[j].toNat ≤ 57 ∧ n ≤ 1048576))) : wloop 0 (l.drop f) = (n, j - f) := by
  obtain ⟨a, b, c, d⟩ := h
  rw [d]
  rcases hs with hs | ⟨hj, hs⟩
  · rw [List.drop_of_length_le (by omega), wloop_nil]; rfl
  · rw [drop_at l j hj, wloop_stop]
    · rfl
    · rintro ⟨h1, h2⟩
      have := isD_iff.1 h1
      exact hs ⟨this.1, this.2, h2⟩

theorem head_at (s : ByteArray) (h : 0 < s.size) : s.data.toList.head? = some (s[0]'h) := by
  rw [List.head?_eq_getElem?]
  have : 0 < s.data.toList.length := by rw [← Lib.size_eq]; exact h
  rw [List.getElem?_eq_getElem this]
  simp; rfl

theorem tail_head_at (s : ByteArray) (h : 1 < s.size) : s.data.toList.tail.head? = some (s[1]'h) := by
  have : 1 < s.data.toList.length := by rw [← Lib.size_eq]; exact h
  rw [← List.drop_one, List.head?_drop, List.getElem?_eq_getElem this]
  simp; rfl

theorem byte_eq {c : UInt8} {k : Nat} (h : ((c.toNat : Int) == (k : Nat)) = true) (hk : k < 256) : c = UInt8.ofNat k := by
  apply UInt8.toNat_inj.1
  have := beq_iff_eq.1 h
  rw [UInt8.toNat_ofNat', Nat.mod_eq_of_lt (show k < 256 from hk)]
  omega

theorem byte_ne {c : UInt8} {k : Nat} (h : ((c.toNat : Int) == (k : Nat)) = false) (hk : k < 256) : c ≠ UInt8.ofNat k := by
  intro e
  have := beq_eq_false_iff_ne.1 h
  apply this
  rw [e, UInt8.toNat_ofNat', Nat.mod_eq_of_lt (show k < 256 from hk)]

set_option maxHeartbeats 800000 in
theorem whole_neg (s : ByteArray) (w : World) (hs : s.size < 4294967281) (h0 : 0 < s.size) (h45 : (((s[0]'h0).toNat : Int) == 45) = true) :
    Calls Tryd.prog 10 #[.string s] w fun e w' => e = .returned (.tuple #[.int .i64 (wholeL s.data.toList).1, .int .i64 (wholeL s.data.toList).2]) ∧ w = w' := by
  have hl : s.data.toList.length = s.size := (Lib.size_eq s).symm
  go_enter Tryd.func10, Tryd.ntmps10
  go_wp2
  go_loop [4, 6] (fun a b => ∃ j n : Nat, Wl s.data.toList 1 j n ∧ a = .int .i64 j ∧ b = .int .i64 n) (fun a _ => s.size - (intOf a).toNat)
  case atStart => exact ⟨1, 0, Wl.start _ _ (by omega), rfl, rfl⟩
  case round =>
    obtain ⟨j, n, hw, rfl, rfl⟩ := hrel
    have h1 := hw.le; have h2 := hw.len; have h3 := hw.small
    rw [hl] at h2
    have HW := Lib.hid hw; clear hw
    by_cases hd : ∃ hj : j < s.size, 48 ≤ (s[j]'hj).toNat ∧ (s[j]'hj).toNat ≤ 57 ∧ n ≤ 1048576
    · obtain ⟨hj, d1, d2, d3⟩ := hd
      have hge : (s[j]'hj) = s.data.toList[j]'(by omega) := by simp; rfl
      have HGE := Lib.hid hge; clear hge
      have i1 : (48 : Int) ≤ (s[j]'hj).toNat := by omega
      have i2 : ((s[j]'hj).toNat : Int) ≤ 57 := by omega
      go_wp2
      go_round
      case rel =>
        refine ⟨j + 1, 10 * n + ((s[j]'hj).toNat - 48), ?_, by go_num, by go_num⟩
        rw [HGE.out] at d1 d2 ⊢
        exact HW.out.step (by omega) d1 d2 d3
      case measure => simp [intOf]; omega
    · have hst : wloop 0 s.data.toList.tail = (n, j - 1) := by
        have := HW.out.stop (by
          by_cases hj : j < s.size
          · refine Or.inr ⟨by omega, fun hh => hd ⟨hj, ?_⟩⟩
            have hge : (s[j]'hj) = s.data.toList[j]'(by omega) := by simp; rfl
            rw [hge]; exact hh
          · exact Or.inl (by omega))
        rwa [List.drop_one] at this
      have hfin : wholeL s.data.toList = if j - 1 = 0 ∨ s.data.toList.tail.head? = some 48 then (0, 0) else (-(n : Int), j - 1 + 1) := by
        have e45 : s.data.toList.head? = some 45 := by rw [head_at s h0, byte_eq (k := 45) h45 (by decide)]; rfl
        unfold wholeL
        rw [if_pos e45, hst]
      have HF := Lib.hid hfin; clear hst hfin HW
      have hr : (¬ j < s.size) ∨ (∃ hj : j < s.size, ¬ (48 : Int) ≤ (s[j]'hj).toNat) ∨ (∃ hj : j < s.size, (48 : Int) ≤ (s[j]'hj).toNat ∧ ¬ ((s[j]'hj).toNat : Int) ≤ 57) ∨ (∃ hj : j < s.size, (48 : Int) ≤ (s[j]'hj).toNat ∧ ((s[j]'hj).toNat : Int) ≤ 57 ∧ ¬ (n : Int) ≤ 1048576) := by
        by_cases hj : j < s.size
        · refine Or.inr ?_
          by_cases c1 : (48 : Int) ≤ (s[j]'hj).toNat
          · by_cases c2 : ((s[j]'hj).toNat : Int) ≤ 57
            · exact Or.inr (Or.inr ⟨hj, c1, c2, fun c3 => hd ⟨hj, by omega, by omega, by omega⟩⟩)
            · exact Or.inr (Or.inl ⟨hj, c1, c2⟩)
          · exact Or.inl ⟨hj, c1⟩
        · exact Or.inl hj
      clear hd
      by_cases hj1 : j = 1
      · subst hj1
        have hf : wholeL s.data.toList = (0, 0) := by rw [HF.out, if_pos (Or.inl rfl)]
        have HF2 := Lib.hid hf; clear hf HF
        rcases hr with hr | ⟨hj, hr⟩ | ⟨hj, hr1, hr⟩ | ⟨hj, hr1, hr2, hr⟩
        all_goals
          go_wp2
          go_ret2
          exact ⟨by rw [HF2.out]; rfl, rfl⟩
      · have hj2 : ((j : Int) == 1) = false := beq_eq_false_iff_ne.2 (by omega)
        have hlt1 : 1 < s.size := by omega
        by_cases h48 : (((s[1]'hlt1).toNat : Int) == 48) = true
        · have hf : wholeL s.data.toList = (0, 0) := by
            rw [HF.out, if_pos (Or.inr (by rw [tail_head_at s hlt1, byte_eq (k := 48) h48 (by decide)]; rfl))]
          have HF2 := Lib.hid hf; clear hf HF
          rcases hr with hr | ⟨hj, hr⟩ | ⟨hj, hr1, hr⟩ | ⟨hj, hr1, hr2, hr⟩
          all_goals
            go_wp2
            all_goals
              go_ret2
              exact ⟨by rw [HF2.out]; rfl, rfl⟩
        · have h48' : (((s[1]'hlt1).toNat : Int) == 48) = false := by simpa using h48
          clear h48
          have hf : wholeL s.data.toList = (-(n : Int), j) := by
            rw [HF.out, if_neg (by
              rintro (h | h)
              · omega
              · rw [tail_head_at s hlt1] at h
                injection h with h
                exact byte_ne (k := 48) h48' (by decide) h)]
            congr 1; omega
          have HF2 := Lib.hid hf; clear hf HF
          rcases hr with hr | ⟨hj, hr⟩ | ⟨hj, hr1, hr⟩ | ⟨hj, hr1, hr2, hr⟩
          all_goals
            go_wp2
            all_goals
              go_ret2
              exact ⟨by rw [HF2.out]; rfl, rfl⟩
set_option maxHeartbeats 800000 in
theorem whole_pos (s : ByteArray) (w : World) (hs : s.size < 4294967281) (h0 : 0 < s.size) (h45 : (((s[0]'h0).toNat : Int) == 45) = false) :
    Calls Tryd.prog 10 #[.string s] w fun e w' => e = .returned (.tuple #[.int .i64 (wholeL s.data.toList).1, .int .i64 (wholeL s.data.toList).2]) ∧ w = w' := by
  have hl : s.data.toList.length = s.size := (Lib.size_eq s).symm
  go_enter Tryd.func10, Tryd.ntmps10
  go_wp2
  go_loop [4, 6] (fun a b => ∃ j n : Nat, Wl s.data.toList 0 j n ∧ a = .int .i64 j ∧ b = .int .i64 n) (fun a _ => s.size - (intOf a).toNat)
  case atStart => exact ⟨0, 0, Wl.start _ _ (by omega), rfl, rfl⟩
  case round =>
    obtain ⟨j, n, hw, rfl, rfl⟩ := hrel
    have h1 := hw.le; have h2 := hw.len; have h3 := hw.small
    rw [hl] at h2
    have HW := Lib.hid hw; clear hw
    by_cases hd : ∃ hj : j < s.size, 48 ≤ (s[j]'hj).toNat ∧ (s[j]'hj).toNat ≤ 57 ∧ n ≤ 1048576
    · obtain ⟨hj, d1, d2, d3⟩ := hd
      have hge : (s[j]'hj) = s.data.toList[j]'(by omega) := by simp; rfl
      have HGE := Lib.hid hge; clear hge
      have i1 : (48 : Int) ≤ (s[j]'hj).toNat := by omega
      have i2 : ((s[j]'hj).toNat : Int) ≤ 57 := by omega
      go_wp2
      go_round
      case rel =>
        refine ⟨j + 1, 10 * n + ((s[j]'hj).toNat - 48), ?_, by go_num, by go_num⟩
        rw [HGE.out] at d1 d2 ⊢
        exact HW.out.step (by omega) d1 d2 d3
      case measure => simp [intOf]; omega
    · have hst : wloop 0 s.data.toList = (n, j) := by
        have := HW.out.stop (by
          by_cases hj : j < s.size
          · refine Or.inr ⟨by omega, fun hh => hd ⟨hj, ?_⟩⟩
            have hge : (s[j]'hj) = s.data.toList[j]'(by omega) := by simp; rfl
            rw [hge]; exact hh
          · exact Or.inl (by omega))
        rwa [List.drop_zero, Nat.sub_zero] at this
      have hfin : wholeL s.data.toList = if j = 0 ∨ (s.data.toList.head? = some 48 ∧ 1 < j) then (0, 0) else ((n : Int), j) := by
        have e45 : s.data.toList.head? ≠ some 45 := by
          rw [head_at s h0]
          intro h
          injection h with h
          exact byte_ne (k := 45) h45 (by decide) h
        unfold wholeL
        rw [if_neg e45, hst]
      have HF := Lib.hid hfin; clear hst hfin HW
      have hr : (¬ j < s.size) ∨ (∃ hj : j < s.size, ¬ (48 : Int) ≤ (s[j]'hj).toNat) ∨ (∃ hj : j < s.size, (48 : Int) ≤ (s[j]'hj).toNat ∧ ¬ ((s[j]'hj).toNat : Int) ≤ 57) ∨ (∃ hj : j < s.size, (48 : Int) ≤ (s[j]'hj).toNat ∧ ((s[j]'hj).toNat : Int) ≤ 57 ∧ ¬ (n : Int) ≤ 1048576) := by
        by_cases hj : j < s.size
        · refine Or.inr ?_
          by_cases c1 : (48 : Int) ≤ (s[j]'hj).toNat
          · by_cases c2 : ((s[j]'hj).toNat : Int) ≤ 57
            · exact Or.inr (Or.inr ⟨hj, c1, c2, fun c3 => hd ⟨hj, by omega, by omega, by omega⟩⟩)
            · exact Or.inr (Or.inl ⟨hj, c1, c2⟩)
          · exact Or.inl ⟨hj, c1⟩
        · exact Or.inl hj
      clear hd
      by_cases hj1 : j = 0
      · subst hj1
        have hf : wholeL s.data.toList = (0, 0) := by rw [HF.out, if_pos (Or.inl rfl)]
        have HF2 := Lib.hid hf; clear hf HF
        rcases hr with hr | ⟨hj, hr⟩ | ⟨hj, hr1, hr⟩ | ⟨hj, hr1, hr2, hr⟩
        all_goals
          go_wp2
          all_goals
            go_ret2
            exact ⟨by rw [HF2.out]; rfl, rfl⟩
      · have hj2 : ((j : Int) == 0) = false := beq_eq_false_iff_ne.2 (by omega)
        by_cases h48 : (((s[0]'h0).toNat : Int) == 48) = true
        · by_cases hgt : 1 < j
          · have hf : wholeL s.data.toList = (0, 0) := by
              rw [HF.out, if_pos (Or.inr ⟨by rw [head_at s h0, byte_eq (k := 48) h48 (by decide)]; rfl, hgt⟩)]
            have HF2 := Lib.hid hf; clear hf HF
            rcases hr with hr | ⟨hj, hr⟩ | ⟨hj, hr1, hr⟩ | ⟨hj, hr1, hr2, hr⟩
            all_goals
              go_wp2
              all_goals
                go_ret2
                exact ⟨by rw [HF2.out]; rfl, rfl⟩
          · have hf : wholeL s.data.toList = ((n : Int), j) := by
              rw [HF.out, if_neg (by rintro (h | ⟨_, h⟩); exact hj1 h; exact hgt h)]
            have HF2 := Lib.hid hf; clear hf HF
            rcases hr with hr | ⟨hj, hr⟩ | ⟨hj, hr1, hr⟩ | ⟨hj, hr1, hr2, hr⟩
            all_goals
              go_wp2
              all_goals
                go_ret2
                exact ⟨by rw [HF2.out]; rfl, rfl⟩
        · have h48' : (((s[0]'h0).toNat : Int) == 48) = false := by simpa using h48
          clear h48
          have hf : wholeL s.data.toList = ((n : Int), j) := by
            rw [HF.out, if_neg (by
              rintro (h | ⟨h, _⟩)
              · exact hj1 h
              · rw [head_at s h0] at h
                injection h with h
                exact byte_ne (k := 48) h48' (by decide) h)]
          have HF2 := Lib.hid hf; clear hf HF
          rcases hr with hr | ⟨hj, hr⟩ | ⟨hj, hr1, hr⟩ | ⟨hj, hr1, hr2, hr⟩
          all_goals
            go_wp2
            all_goals
              go_ret2
              exact ⟨by rw [HF2.out]; rfl, rfl⟩

theorem whole_none (s : ByteArray) (w : World) (h0 : s.size = 0) :
    Calls Tryd.prog 10 #[.string s] w fun e w' => e = .returned (.tuple #[.int .i64 (wholeL s.data.toList).1, .int .i64 (wholeL s.data.toList).2]) ∧ w = w' := by
  have hnil : s.data.toList = [] := by rw [← List.length_eq_zero_iff, ← Lib.size_eq]; exact h0
  have hf : wholeL s.data.toList = (0, 0) := by rw [hnil]; rfl
  have HF2 := Lib.hid hf; clear hf hnil
  go_enter Tryd.func10, Tryd.ntmps10
  go_wp2
  refine wp_loop_rounds 1 ?_
  rw [rounds_succ]
  go_wp2
  go_ret2
  exact ⟨by rw [HF2.out]; rfl, rfl⟩

theorem whole_any (s : ByteArray) (w : World) (hs : s.size < 4294967281) :
    Calls Tryd.prog 10 #[.string s] w fun e w' => e = .returned (.tuple #[.int .i64 (wholeL s.data.toList).1, .int .i64 (wholeL s.data.toList).2]) ∧ w = w' := by
  by_cases h0 : 0 < s.size
  · cases h45 : (((s[0]'h0).toNat : Int) == 45)
    · exact whole_pos s w hs h0 h45
    · exact whole_neg s w hs h0 h45
  · exact whole_none s w (by omega)

theorem in_any (n : Int) (w : World) :
    Calls Tryd.prog 11 #[.int .i64 n] w fun e w' => e = .returned (.bool (inB n)) ∧ w' = w := by
  by_cases h1 : -1048576 ≤ n
  · by_cases h2 : n ≤ 1048576
    · have hL : inB n = true := decide_eq_true ⟨h1, h2⟩
      rw [hL]; clear hL
      go_enter Tryd.func11, Tryd.ntmps11
      go_wp2
      go_ret
      exact ⟨rfl, rfl⟩
    · have hL : inB n = false := decide_eq_false (fun h => h2 h.2)
      rw [hL]; clear hL
      go_enter Tryd.func11, Tryd.ntmps11
      go_wp2
      go_ret
      exact ⟨rfl, rfl⟩
  · have hL : inB n = false := decide_eq_false (fun h => h1 h.1)
    rw [hL]; clear hL
    go_enter Tryd.func11, Tryd.ntmps11
    go_wp2
    go_ret
    exact ⟨rfl, rfl⟩

end Go.Proofs.YtimcecbnnohneaaDoor
