/- The document's Number and Name (package quintainref02) at every text. -/
import Derived.Test.YtfgocdeaanalgaaDoorN3
namespace Go.Proofs.YtfgocdeaanalgaaDoor
open Go.RowKit

/-- where the document's loop over the digits stands -/
structure Rig (l : List UInt8) (b : Bool) (j : Nat) (n : Int) : Prop where
  ex : ∃ v : Nat, Nd l (fOf l) j v ∧ ((n = v ∧ v ≤ 1099511627776) ∨ (1099511627776 < n ∧ 1099511627776 < v))
  head : b = true ↔ l.head? = some 45
  ne : fOf l < l.length
  nz : (l.drop (fOf l)).head? ≠ some 48 ∨ l.length = 1
  lo : 0 ≤ n
  hi : n ≤ 10995116277769

theorem Rig.step {l : List UInt8} {b : Bool} {j : Nat} {n n' : Int} {c : UInt8} (h : Rig l b j n) (hj : j < l.length) (hc : l[j] = c) (hd : isD c = true)
    (hn : (n ≤ 1099511627776 ∧ n' = 10 * n + ((c.toNat : Int) - 48)) ∨ (1099511627776 < n ∧ n' = n)) : Rig l b (j + 1) n' := by
  obtain ⟨v, hv, hnv⟩ := h.ex
  have hb := isD_iff.1 hd
  have hs := hv.step hj (by rw [hc]; exact hd)
  rw [hc] at hs
  have hdv : (digv c : Int) = (c.toNat : Int) - 48 := by unfold digv; omega
  have h0 := h.lo; have h1 := h.hi
  refine ⟨⟨_, hs, ?_⟩, h.head, h.ne, h.nz, by omega, by omega⟩
  have : ((10 * v + digv c : Nat) : Int) = 10 * (v : Int) + ((c.toNat : Int) - 48) := by rw [← hdv]; simp
  omega

theorem Rig.stop {l : List UInt8} {b : Bool} {j : Nat} {n : Int} (h : Rig l b j n) (hj : j = l.length) :
    (1099511627776 < n → numP l = (0, 5)) ∧ (¬ 1099511627776 < n → numP l = (bif b then -n else n, 0)) := by
  subst hj
  obtain ⟨v, hv, hnv⟩ := h.ex
  obtain ⟨h1, h2⟩ := okN_all hv h.ne h.nz
  refine ⟨fun hr => numP_range h1 (by rw [h2]; omega), fun hr => ?_⟩
  have e : n = (valN l : Int) := by rw [h2]; omega
  cases b
  · rw [numP_pos h1 (by omega) (fun e => by have := h.head.2 e; cases this), e]; rfl
  · rw [numP_neg h1 (by omega) (h.head.1 rfl), e]; rfl

theorem Rig.bad {l : List UInt8} {b : Bool} {j : Nat} {n : Int} (h : Rig l b j n) (hj : j < l.length) (hd : isD l[j] = false) : numP l = (0, 1) := by
  obtain ⟨v, hv, hnv⟩ := h.ex
  exact numP_form (okN_bad hv.le hj hd)

theorem rig_start {l : List UInt8} {b : Bool} {j : Nat} (hb : b = true ↔ l.head? = some 45) (hj : fOf l = j) (ne : j < l.length) (nz : (l.drop j).head? ≠ some 48 ∨ l.length = 1) : Rig l b j 0 := by
  subst hj
  exact ⟨⟨0, Nd.start _ _ (by omega), Or.inl ⟨rfl, by omega⟩⟩, hb, ne, nz, by omega, by omega⟩

def intOf : Value → Int | .int _ q => q | _ => 0

set_option maxHeartbeats 1600000 in
theorem refNumber_any (s : ByteArray) (w : World) (hs : s.size ≤ 281474976710656) :
    Calls Tryd.prog 51 #[.string s] w (NumPost s.data.toList w) := by
  have hl : s.data.toList.length = s.size := (Lib.size_eq s).symm
  by_cases h0 : 0 < s.size
  · have hh := head_at s h0
    by_cases h45 : s[0] = 45
    · have t45 : ((s[0].toNat : Int) == 45) = true := byte_is (k := 45) (by decide) h45
      have hf : fOf s.data.toList = 1 := by unfold fOf; rw [hh, h45]; rfl
      have hb : true = true ↔ s.data.toList.head? = some 45 := ⟨fun _ => by rw [hh, h45], fun _ => rfl⟩
      by_cases h1 : 1 < s.size
      · have hd := drop_head_at s 1 h1
        by_cases h48 : s[1] = 48
        · have t48 : ((s[1].toNat : Int) == 48) = true := byte_is (k := 48) (by decide) h48
          have hn : numP s.data.toList = (0, 1) := numP_form (okN_nought (by rw [hf, hd, h48]) (by omega))
          have HN := Lib.hid hn
          clear hn hd h48 hf hb h45 hh
          go_enter Tryd.func51, Tryd.ntmps51
          go_wp2
          go_ret2
          exact NumPost.mk' HN.out
        · have t48 : ((s[1].toNat : Int) == 48) = false := byte_not (k := 48) (by decide) h48
          have h1e : ((1 : Int) == (s.size : Int)) = false := beq_eq_false_iff_ne.2 (by omega)
          have HS : Rig s.data.toList true 1 0 := rig_start hb hf (by omega) (Or.inl (by rw [hd]; intro e; injection e with e; exact h48 e))
          clear hd h48 hf hb h45 hh
          go_enter Tryd.func51, Tryd.ntmps51
          go_wp2
          go_loop [2, 3, 5, 6] (fun x2 x3 x i => x2 = .int .i64 0 ∧ x3 = .int .i64 0 ∧ ∃ (j : Nat) (m : Int), Rig s.data.toList true j m ∧ j ≤ s.size ∧ x = .int .i64 m ∧ i = .int .i64 j) (fun _ _ _ i => s.size - (intOf i).toNat)
          case atStart => exact ⟨rfl, rfl, 1, 0, HS, by omega, rfl, rfl⟩
          case round =>
            obtain ⟨rfl, rfl, j, n, hr, hj, rfl, rfl⟩ := hrel
            have h1 := hr.lo; have h2 := hr.hi
            have HR := Lib.hid hr; clear hr
            by_cases hlt : j < s.size
            · have hge : s.data.toList[j]'(by omega) = s[j] := at_list s j hlt _
              cases hdg : isD s[j]
              · have hf : numP s.data.toList = (0, 1) := HR.out.bad (by omega) (by rw [hge]; exact hdg)
                have HF := Lib.hid hf
                have hnd : (s[j].toNat : Int) < 48 ∨ (48 ≤ (s[j].toNat : Int) ∧ 57 < (s[j].toNat : Int)) := by
                  have : ¬ (48 ≤ s[j].toNat ∧ s[j].toNat ≤ 57) := of_decide_eq_false hdg
                  omega
                clear hf hge hdg
                rcases hnd with hnd | ⟨hnd, hnd'⟩
                all_goals
                  go_wp2
                  go_ret2
                  exact NumPost.mk' HF.out
              · have hb := isD_iff.1 hdg
                have hb1 : (48 : Int) ≤ s[j].toNat := by omega
                have hb2 : (s[j].toNat : Int) ≤ 57 := by omega
                have key := fun n' h => HR.out.step (n' := n') (by omega) hge hdg h
                have KEY := Lib.hid key; clear key hge hb hdg
                by_cases hm : n ≤ 1099511627776
                all_goals
                  go_wp2
                  go_round
                  case rel => exact ⟨rfl, rfl, j + 1, _, KEY.out _ (by omega), by omega, rfl, by go_num⟩
                  case measure => simp [intOf]; omega
            · have hst := HR.out.stop (by omega)
              have HST := Lib.hid hst; clear hst
              by_cases hm : 1099511627776 < n
              all_goals
                go_wp2
                go_ret2
                first
                  | exact NumPost.mk' (HST.out.1 hm)
                  | exact NumPost.mk' (HST.out.2 hm)
      · have hn : numP s.data.toList = (0, 1) := numP_form (okN_empty (by omega))
        have h1' : (s.size : Int) = 1 := by omega
        have HN := Lib.hid hn
        clear hn hf hb h45 hh h1
        go_enter Tryd.func51, Tryd.ntmps51
        go_wp2
        go_ret2
        exact NumPost.mk' HN.out
    · have t45 : ((s[0].toNat : Int) == 45) = false := byte_not (k := 45) (by decide) h45
      have hne : s.data.toList.head? ≠ some 45 := by rw [hh]; intro e; injection e with e; exact h45 e
      have hf : fOf s.data.toList = 0 := by unfold fOf; rw [if_neg hne]
      have hb : false = true ↔ s.data.toList.head? = some 45 := ⟨fun h => (by cases h), fun h => absurd h hne⟩
      by_cases h48 : s[0] = 48
      · have t48 : ((s[0].toNat : Int) == 48) = true := byte_is (k := 48) (by decide) h48
        by_cases h1 : s.size = 1
        · have HS : Rig s.data.toList false 0 0 := rig_start hb hf (by omega) (Or.inr (by omega))
          have h1' : (s.size : Int) = 1 := by omega
          clear h48 hf hb h45 hh hne
          go_enter Tryd.func51, Tryd.ntmps51
          go_wp2
          go_loop [2, 3, 5, 6] (fun x2 x3 x i => x2 = .int .i64 0 ∧ x3 = .int .i64 0 ∧ ∃ (j : Nat) (m : Int), Rig s.data.toList false j m ∧ j ≤ s.size ∧ x = .int .i64 m ∧ i = .int .i64 j) (fun _ _ _ i => s.size - (intOf i).toNat)
          case atStart => exact ⟨rfl, rfl, 0, 0, HS, by omega, rfl, rfl⟩
          case round =>
            obtain ⟨rfl, rfl, j, n, hr, hj, rfl, rfl⟩ := hrel
            have h1 := hr.lo; have h2 := hr.hi
            have HR := Lib.hid hr; clear hr
            by_cases hlt : j < s.size
            · have hge : s.data.toList[j]'(by omega) = s[j] := at_list s j hlt _
              cases hdg : isD s[j]
              · have hf : numP s.data.toList = (0, 1) := HR.out.bad (by omega) (by rw [hge]; exact hdg)
                have HF := Lib.hid hf
                have hnd : (s[j].toNat : Int) < 48 ∨ (48 ≤ (s[j].toNat : Int) ∧ 57 < (s[j].toNat : Int)) := by
                  have : ¬ (48 ≤ s[j].toNat ∧ s[j].toNat ≤ 57) := of_decide_eq_false hdg
                  omega
                clear hf hge hdg
                rcases hnd with hnd | ⟨hnd, hnd'⟩
                all_goals
                  go_wp2
                  go_ret2
                  exact NumPost.mk' HF.out
              · have hb := isD_iff.1 hdg
                have hb1 : (48 : Int) ≤ s[j].toNat := by omega
                have hb2 : (s[j].toNat : Int) ≤ 57 := by omega
                have key := fun n' h => HR.out.step (n' := n') (by omega) hge hdg h
                have KEY := Lib.hid key; clear key hge hb hdg
                by_cases hm : n ≤ 1099511627776
                all_goals
                  go_wp2
                  go_round
                  case rel => exact ⟨rfl, rfl, j + 1, _, KEY.out _ (by omega), by omega, rfl, by go_num⟩
                  case measure => simp [intOf]; omega
            · have hst := HR.out.stop (by omega)
              have HST := Lib.hid hst; clear hst
              by_cases hm : 1099511627776 < n
              all_goals
                go_wp2
                go_ret2
                first
                  | exact NumPost.mk' (HST.out.1 hm)
                  | exact NumPost.mk' (HST.out.2 hm)
        · have hn : numP s.data.toList = (0, 1) := numP_form (okN_nought (by rw [hf, List.drop_zero, hh, h48]) (by omega))
          have h1' : (1 : Int) < s.size := by omega
          have HN := Lib.hid hn
          clear hn h48 hf hb h45 hh hne
          go_enter Tryd.func51, Tryd.ntmps51
          go_wp2
          go_ret2
          exact NumPost.mk' HN.out
      · have t48 : ((s[0].toNat : Int) == 48) = false := byte_not (k := 48) (by decide) h48
        have h0e : ((0 : Int) == (s.size : Int)) = false := beq_eq_false_iff_ne.2 (by omega)
        have HS : Rig s.data.toList false 0 0 := rig_start hb hf (by omega) (Or.inl (by rw [List.drop_zero, hh]; intro e; injection e with e; exact h48 e))
        clear h48 hf hb h45 hh hne
        go_enter Tryd.func51, Tryd.ntmps51
        go_wp2
        go_loop [2, 3, 5, 6] (fun x2 x3 x i => x2 = .int .i64 0 ∧ x3 = .int .i64 0 ∧ ∃ (j : Nat) (m : Int), Rig s.data.toList false j m ∧ j ≤ s.size ∧ x = .int .i64 m ∧ i = .int .i64 j) (fun _ _ _ i => s.size - (intOf i).toNat)
        case atStart => exact ⟨rfl, rfl, 0, 0, HS, by omega, rfl, rfl⟩
        case round =>
          obtain ⟨rfl, rfl, j, n, hr, hj, rfl, rfl⟩ := hrel
          have h1 := hr.lo; have h2 := hr.hi
          have HR := Lib.hid hr; clear hr
          by_cases hlt : j < s.size
          · have hge : s.data.toList[j]'(by omega) = s[j] := at_list s j hlt _
            cases hdg : isD s[j]
            · have hf : numP s.data.toList = (0, 1) := HR.out.bad (by omega) (by rw [hge]; exact hdg)
              have HF := Lib.hid hf
              have hnd : (s[j].toNat : Int) < 48 ∨ (48 ≤ (s[j].toNat : Int) ∧ 57 < (s[j].toNat : Int)) := by
                have : ¬ (48 ≤ s[j].toNat ∧ s[j].toNat ≤ 57) := of_decide_eq_false hdg
                omega
              clear hf hge hdg
              rcases hnd with hnd | ⟨hnd, hnd'⟩
              all_goals
                go_wp2
                go_ret2
                exact NumPost.mk' HF.out
            · have hb := isD_iff.1 hdg
              have hb1 : (48 : Int) ≤ s[j].toNat := by omega
              have hb2 : (s[j].toNat : Int) ≤ 57 := by omega
              have key := fun n' h => HR.out.step (n' := n') (by omega) hge hdg h
              have KEY := Lib.hid key; clear key hge hb hdg
              by_cases hm : n ≤ 1099511627776
              all_goals
                go_wp2
                go_round
                case rel => exact ⟨rfl, rfl, j + 1, _, KEY.out _ (by omega), by omega, rfl, by go_num⟩
                case measure => simp [intOf]; omega
          · have hst := HR.out.stop (by omega)
            have HST := Lib.hid hst; clear hst
            by_cases hm : 1099511627776 < n
            all_goals
              go_wp2
              go_ret2
              first
                | exact NumPost.mk' (HST.out.1 hm)
                | exact NumPost.mk' (HST.out.2 hm)
  · have hnil : s.data.toList = [] := List.eq_nil_of_length_eq_zero (by omega)
    have hn : numP s.data.toList = (0, 1) := by rw [hnil]; decide +kernel
    have h0' : (s.size : Int) = 0 := by omega
    have HN := Lib.hid hn
    clear hn hnil h0
    go_enter Tryd.func51, Tryd.ntmps51
    go_wp2
    go_ret2
    exact NumPost.mk' HN.out
end Go.Proofs.YtfgocdeaanalgaaDoor
