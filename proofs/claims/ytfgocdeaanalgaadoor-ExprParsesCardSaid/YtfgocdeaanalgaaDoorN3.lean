/- words.Number at every text. -/
import Derived.Test.YtfgocdeaanalgaaDoorN2
import Derived.Test.YtfgocdeaanalgaaDoorNb
namespace Go.Proofs.YtfgocdeaanalgaaDoor
open Go.RowKit

def DAt (s : ByteArray) (b : Bool) (j : Nat) (n : Int) (a : Act) : Prop := ∃ u1 u2 u3 u7 u8 u9 u10 u11 u12 u13 u14 u15 u16 u17 u18 u19 u20 u21 u22 u23 u24 u25 u26 u27 u28 u29 u30 u31 u32 u33 u34 u35 u36 u37 u38 u39 u40 u41 u42 u43 u44 u45 u46 u47 u48 u49 u50 u51 u52 u53 u54 u55 u56 u57 u58 u59 u60 u61 u62 u63 : Value,  a = { tmps := #[.string s, u1, u2, u3, .int .i64 n, .int .i64 j, .bool b, u7, u8, u9, u10, u11, u12, u13, u14, u15, u16, u17, u18, u19, u20, u21, u22, u23, u24, u25, u26, u27, u28, u29, u30, u31, u32, u33, u34, u35, u36, u37, u38, u39, u40, u41, u42, u43, u44, u45, u46, u47, u48, u49, u50, u51, u52, u53, u54, u55, u56, u57, u58, u59, u60, u61, u62, u63], defers := [] }
def OAt (s : ByteArray) (a : Act) : Prop := ∃ u1 u2 u3 u4 u5 u6 u7 u8 u9 u10 u11 u12 u13 u14 u15 u16 u17 u18 u19 u20 u21 u22 u23 u24 u25 u26 u27 u28 u29 u30 u31 u32 u33 u34 u35 u36 u37 u38 u39 u40 u41 u42 u43 u44 u45 u46 u47 u48 u49 u50 u51 u52 u53 u54 u55 u56 u57 u58 u59 u60 u61 u62 u63 : Value,  a = { tmps := #[.string s, u1, u2, u3, u4, u5, u6, u7, u8, u9, u10, u11, u12, u13, u14, u15, u16, u17, u18, u19, u20, u21, u22, u23, u24, u25, u26, u27, u28, u29, u30, u31, u32, u33, u34, u35, u36, u37, u38, u39, u40, u41, u42, u43, u44, u45, u46, u47, u48, u49, u50, u51, u52, u53, u54, u55, u56, u57, u58, u59, u60, u61, u62, u63], defers := [] }

structure Dig (l : List UInt8) (b : Bool) (j : Nat) (n : Int) : Prop where
  ex : ∃ v : Nat, Nd l (fOf l) j v ∧ n = min (v : Int) 1099511627777
  head : b = true ↔ l.head? = some 45
  lt : j = fOf l ∨ j < l.length
  nz : (l.drop (fOf l)).head? ≠ some 48
  hj : j ≤ l.length

/-- what holds at each label of Number -/
def NumJ (s : ByteArray) (w : World) (l : Nat) (a : Act) (w' : World) : Prop :=
  w = w' ∧ ((l = 2 ∧ ∃ b j n, Dig s.data.toList b j n ∧ DAt s b j n a) ∨
    (l = 0 ∧ numP s.data.toList = (0, if s.size = 1 then 0 else 1) ∧ OAt s a) ∨ (l = 1 ∧ numP s.data.toList = (0, 1) ∧ OAt s a))
def NumM (s : ByteArray) (l : Nat) (a : Act) (_ : World) : Nat := if l = 2 then s.size - kOf a 5 + 2 else if l = 0 then 1 else 0

theorem numM_one {s : ByteArray} {a a' : Act} {w w' : World} : NumM s 1 a w < NumM s 2 a' w' := by simp [NumM]
theorem numM_zero {s : ByteArray} {a a' : Act} {w w' : World} : NumM s 1 a w < NumM s 0 a' w' := by simp [NumM]
theorem numM_step {s : ByteArray} {a a' : Act} {w w' : World} {j : Nat} (h : kOf a 5 = j + 1) (h' : kOf a' 5 = j) (hj : j < s.size) : NumM s 2 a w < NumM s 2 a' w' := by
  simp only [NumM, h, h', if_true]; omega

theorem dig_step {l : List UInt8} {b : Bool} {j : Nat} {n n' : Int} {c : UInt8} {z : Nat} (h : Dig l b j n) (hj : j < l.length) (hc : l[j] = c) (hl : l.length = z) (hd : isD c = true)
    (hn : (n' = n * 10 + ((c.toNat : Int) - 48) ∧ n' ≤ 1099511627777) ∨ (n' = 1099511627777 ∧ 1099511627777 ≤ n * 10 + ((c.toNat : Int) - 48))) :
    (j + 1 < z → Dig l b (j + 1) n') ∧ (j + 1 = z → 1099511627776 < n' → numP l = (0, 5)) ∧ (j + 1 = z → ¬ 1099511627776 < n' → numP l = (bif b then -n' else n', 0)) := by
  obtain ⟨v, hv, rfl⟩ := h.ex
  have hb := isD_iff.1 hd
  have hs := hv.step hj (by rw [hc]; exact hd)
  rw [hc] at hs
  have hdv : (digv c : Int) = (c.toNat : Int) - 48 := by unfold digv; omega
  have hn' : n' = min ((10 * v + digv c : Nat) : Int) 1099511627777 := by
    have : ((10 * v + digv c : Nat) : Int) = 10 * (v : Int) + ((c.toNat : Int) - 48) := by rw [← hdv]; simp
    rw [this]
    clear hs hdv
    omega
  have hf : fOf l < l.length := by have := hv.le; omega
  refine ⟨fun hz => ⟨⟨_, hs, hn'⟩, h.head, Or.inr (by omega), h.nz, by omega⟩, fun hz hr => ?_, fun hz hr => ?_⟩
  · have e : j + 1 = l.length := by omega
    rw [e] at hs
    obtain ⟨h1, h2⟩ := okN_all hs hf (Or.inl h.nz)
    exact numP_range h1 (by rw [h2]; omega)
  · have e : j + 1 = l.length := by omega
    rw [e] at hs
    obtain ⟨h1, h2⟩ := okN_all hs hf (Or.inl h.nz)
    have hnv : n' = (valN l : Int) := by rw [h2]; omega
    cases b
    · rw [numP_pos h1 (by omega) (fun e => by have := h.head.2 e; cases this), hnv]; rfl
    · rw [numP_neg h1 (by omega) (h.head.1 rfl), hnv]; rfl

theorem dig_start {l : List UInt8} {b : Bool} {j : Nat} (hb : b = true ↔ l.head? = some 45) (hj : fOf l = j) (hle : j ≤ l.length) (nz : (l.drop j).head? ≠ some 48) : Dig l b j 0 := by
  subst hj
  exact ⟨⟨0, Nd.start _ _ hle, rfl⟩, hb, Or.inl rfl, nz, hle⟩

theorem head_at (s : ByteArray) (h : 0 < s.size) : s.data.toList.head? = some s[0] := by
  rw [List.head?_eq_getElem?, List.getElem?_eq_getElem (by rw [← Lib.size_eq]; exact h)]
  simp; rfl
theorem drop_head_at (s : ByteArray) (k : Nat) (h : k < s.size) : (s.data.toList.drop k).head? = some s[k] := by
  rw [List.head?_drop, List.getElem?_eq_getElem (by rw [← Lib.size_eq]; exact h)]
  simp; rfl
theorem ret_two {k : IntKind} {a b c d : Int} (h : (a, b) = (c, d)) : Ending.returned (.tuple #[.int k a, .int .i64 b]) = .returned (.tuple #[.int k c, .int .i64 d]) := by
  injection h with h1 h2; rw [h1, h2]

/-- what Number comes to -/
def NumPost (l : List UInt8) (w : World) (e : Ending) (w' : World) : Prop := e = .returned (.tuple #[.int .i64 (numP l).1, .int .i64 (numP l).2]) ∧ w = w'
theorem NumPost.mk' {l : List UInt8} {w : World} {a b : Int} (h : numP l = (a, b)) : NumPost l w (.returned (.tuple #[.int .i64 a, .int .i64 b])) w := by
  unfold NumPost; rw [h]; exact ⟨rfl, rfl⟩

theorem number_any (s : ByteArray) (w : World) (hs : s.size ≤ 281474976710656) :
    Calls Tryd.prog 67 #[.string s] w (NumPost s.data.toList w) := by
  have hl : s.data.toList.length = s.size := (Lib.size_eq s).symm
  go_enter Tryd.func67, Tryd.ntmps67
  go_wp2
  refine wp_scope_labels (NumJ s w) (NumM s) ?_ ?_
  · rintro l a w' ⟨rfl, ⟨rfl, b, j, n, hd, u1, u2, u3, u7, u8, u9, u10, u11, u12, u13, u14, u15, u16, u17, u18, u19, u20, u21, u22, u23, u24, u25, u26, u27, u28, u29, u30, u31, u32, u33, u34, u35, u36, u37, u38, u39, u40, u41, u42, u43, u44, u45, u46, u47, u48, u49, u50, u51, u52, u53, u54, u55, u56, u57, u58, u59, u60, u61, u62, u63, rfl⟩ | ⟨rfl, hn, u1, u2, u3, u4, u5, u6, u7, u8, u9, u10, u11, u12, u13, u14, u15, u16, u17, u18, u19, u20, u21, u22, u23, u24, u25, u26, u27, u28, u29, u30, u31, u32, u33, u34, u35, u36, u37, u38, u39, u40, u41, u42, u43, u44, u45, u46, u47, u48, u49, u50, u51, u52, u53, u54, u55, u56, u57, u58, u59, u60, u61, u62, u63, rfl⟩ | ⟨rfl, hn, u1, u2, u3, u4, u5, u6, u7, u8, u9, u10, u11, u12, u13, u14, u15, u16, u17, u18, u19, u20, u21, u22, u23, u24, u25, u26, u27, u28, u29, u30, u31, u32, u33, u34, u35, u36, u37, u38, u39, u40, u41, u42, u43, u44, u45, u46, u47, u48, u49, u50, u51, u52, u53, u54, u55, u56, u57, u58, u59, u60, u61, u62, u63, rfl⟩⟩
    · refine ⟨_, rfl, ?_⟩
      intro H
      clear H
      have hjl := hd.hj
      rw [hl] at hjl
      have hn0 : 0 ≤ n ∧ n ≤ 1099511627777 := by obtain ⟨v, _, rfl⟩ := hd.ex; omega
      obtain ⟨hn0, hn1⟩ := hn0
      have HD := Lib.hid hd; clear hd
      by_cases hj : j = s.size
      · have hj' : (j : Int) = s.size := by omega
        have hf : numP s.data.toList = (0, 1) := by
          refine numP_form (okN_empty ?_)
          rcases HD.out.lt with h | h <;> omega
        have HF := Lib.hid hf; clear hf hj
        go_wp2
        go_step3
        refine ⟨⟨rfl, Or.inr (Or.inr ⟨rfl, HF.out, _, _, _, _, _, _, _, _, _, _, _, _, _, _, _, _, _, _, _, _, _, _, _, _, _, _, _, _, _, _, _, _, _, _, _, _, _, _, _, _, _, _, _, _, _, _, _, _, _, _, _, _, _, _, _, _, _, _, _, _, _, _, _, rfl⟩)⟩, numM_one⟩
      · have hlt : j < s.size := by omega
        have hj' : ¬ (j : Int) = s.size := by omega
        clear hj
        have hge : s.data.toList[j]'(by omega) = s[j] := at_list s j hlt _
        cases hdg : isD s[j]
        · have hf : numP s.data.toList = (0, 1) := by
            refine numP_form (okN_bad (j := j) ?_ (by omega) (by rw [hge]; exact hdg))
            obtain ⟨v, h, _⟩ := HD.out.ex
            exact h.le
          have HF := Lib.hid hf; clear hf hge
          go_wp2_with (go_at_call 43; refine (isDigit_any _ _).mono ?_; rintro e w' ⟨rfl, rfl⟩)
          go_step3
          refine ⟨⟨rfl, Or.inr (Or.inr ⟨rfl, HF.out, _, _, _, _, _, _, _, _, _, _, _, _, _, _, _, _, _, _, _, _, _, _, _, _, _, _, _, _, _, _, _, _, _, _, _, _, _, _, _, _, _, _, _, _, _, _, _, _, _, _, _, _, _, _, _, _, _, _, _, _, _, _, _, rfl⟩)⟩, numM_one⟩
        · have hb := isD_iff.1 hdg
          have hb1 : (48 : Int) ≤ s[j].toNat := by omega
          have hb2 : (s[j].toNat : Int) ≤ 57 := by omega
          have key := fun n' h => dig_step (n' := n') HD.out (by omega) hge hl hdg h
          have KEY := Lib.hid key; clear key hge hb
          cases b
          all_goals
            go_wp2_with (go_at_call 43; refine (isDigit_any _ _).mono ?_; rintro e w' ⟨rfl, rfl⟩)
            all_goals first
              | (go_step3; exact ⟨⟨rfl, Or.inl ⟨rfl, _, j + 1, _, (KEY.out _ (by omega)).1 (by omega), _, _, _, _, _, _, _, _, _, _, _, _, _, _, _, _, _, _, _, _, _, _, _, _, _, _, _, _, _, _, _, _, _, _, _, _, _, _, _, _, _, _, _, _, _, _, _, _, _, _, _, _, _, _, _, _, _, _, _, _, rfl⟩⟩, numM_step rfl rfl hlt⟩)
              | (go_ret2; exact NumPost.mk' ((KEY.out 1099511627777 (by omega)).2.1 (by omega) (by omega)))
              | (go_ret2; exact NumPost.mk' ((KEY.out _ (by omega)).2.2 (by omega) (by omega)))
    · refine ⟨_, rfl, ?_⟩
      intro H
      have HH := Lib.hid H; clear H
      by_cases h1 : s.size = 1
      · have h1' : (s.size : Int) = 1 := by omega
        rw [if_pos h1] at hn
        have HN := Lib.hid hn; clear hn h1
        go_wp2
        go_ret2
        exact NumPost.mk' HN.out
      · have h1' : ¬ (s.size : Int) = 1 := by omega
        rw [if_neg h1] at hn
        have HN := Lib.hid hn; clear hn h1
        go_wp2
        go_step3
        refine walk_on (by assumption) (HH.out 1 _ _ _ rfl ⟨rfl, Or.inr (Or.inr ⟨rfl, HN.out, _, _, _, _, _, _, _, _, _, _, _, _, _, _, _, _, _, _, _, _, _, _, _, _, _, _, _, _, _, _, _, _, _, _, _, _, _, _, _, _, _, _, _, _, _, _, _, _, _, _, _, _, _, _, _, _, _, _, _, _, _, _, _, rfl⟩)⟩ numM_zero)
    · refine ⟨_, rfl, ?_⟩
      intro H
      clear H
      have HN := Lib.hid hn; clear hn
      go_wp2
      go_ret2
      exact NumPost.mk' HN.out
  · intro H
    have HH := Lib.hid H; clear H
    by_cases h0 : 0 < s.size
    · have hh := head_at s h0
      by_cases h45 : s[0] = 45
      · have t45 : ((s[0].toNat : Int) == 45) = true := byte_is (k := 45) (by decide) h45
        have hf : fOf s.data.toList = 1 := by unfold fOf; rw [hh, h45]; rfl
        have hb : true = true ↔ s.data.toList.head? = some 45 := ⟨fun _ => by rw [hh, h45], fun _ => rfl⟩
        by_cases h1 : 1 < s.size
        · have hd := drop_head_at s 1 h1
          by_cases h48 : s[1] = 48
          · have t48 : ((s[1].toNat : Int) == 48) = true := byte_is (k := 48) (by decide) h48
            have hn : numP s.data.toList = (0, if s.size = 1 then 0 else 1) := by
              rw [if_neg (by omega)]
              exact numP_form (okN_nought (by rw [hf, hd, h48]) (by omega))
            have HN := Lib.hid hn
            clear hn hd h48 hf hb h45 hh
            go_wp2
            go_step3
            exact ⟨rfl, Or.inr (Or.inl ⟨rfl, HN.out, _, _, _, _, _, _, _, _, _, _, _, _, _, _, _, _, _, _, _, _, _, _, _, _, _, _, _, _, _, _, _, _, _, _, _, _, _, _, _, _, _, _, _, _, _, _, _, _, _, _, _, _, _, _, _, _, _, _, _, _, _, _, _, rfl⟩)⟩
          · have t48 : ((s[1].toNat : Int) == 48) = false := byte_not (k := 48) (by decide) h48
            have hg : Dig s.data.toList true 1 0 := dig_start hb hf (by omega) (by rw [hd]; intro e; injection e with e; exact h48 e)
            clear hd h48 hf hb h45 hh
            go_wp2
            go_step3
            refine walk_on (by assumption) (HH.out 2 _ _ _ rfl ⟨rfl, Or.inl ⟨rfl, true, 1, 0, hg, _, _, _, _, _, _, _, _, _, _, _, _, _, _, _, _, _, _, _, _, _, _, _, _, _, _, _, _, _, _, _, _, _, _, _, _, _, _, _, _, _, _, _, _, _, _, _, _, _, _, _, _, _, _, _, _, _, _, _, _, rfl⟩⟩)
        · have hg : Dig s.data.toList true 1 0 := dig_start hb hf (by omega) (by rw [List.drop_of_length_le (by omega)]; simp)
          clear hf hb h45 hh
          have h1' : (s.size : Int) = 1 := by omega
          clear h1
          go_wp2
          go_step3
          refine walk_on (by assumption) (HH.out 2 _ _ _ rfl ⟨rfl, Or.inl ⟨rfl, true, 1, 0, hg, _, _, _, _, _, _, _, _, _, _, _, _, _, _, _, _, _, _, _, _, _, _, _, _, _, _, _, _, _, _, _, _, _, _, _, _, _, _, _, _, _, _, _, _, _, _, _, _, _, _, _, _, _, _, _, _, _, _, _, _, rfl⟩⟩)
      · have t45 : ((s[0].toNat : Int) == 45) = false := byte_not (k := 45) (by decide) h45
        have hne : s.data.toList.head? ≠ some 45 := by rw [hh]; intro e; injection e with e; exact h45 e
        have hf : fOf s.data.toList = 0 := by unfold fOf; rw [if_neg hne]
        have hb : false = true ↔ s.data.toList.head? = some 45 := ⟨fun h => (by cases h), fun h => absurd h hne⟩
        by_cases h48 : s[0] = 48
        · have t48 : ((s[0].toNat : Int) == 48) = true := byte_is (k := 48) (by decide) h48
          have hn : numP s.data.toList = (0, if s.size = 1 then 0 else 1) := by
            by_cases h1 : s.size = 1
            · rw [if_pos h1, one_zero (l := s.data.toList) (by omega) (by rw [hh, h48]), numP_zero]
            · rw [if_neg h1]
              exact numP_form (okN_nought (by rw [hf, List.drop_zero, hh, h48]) (by omega))
          have HN := Lib.hid hn
          clear hn h48 hf hb h45 hh hne
          go_wp2
          go_step3
          exact ⟨rfl, Or.inr (Or.inl ⟨rfl, HN.out, _, _, _, _, _, _, _, _, _, _, _, _, _, _, _, _, _, _, _, _, _, _, _, _, _, _, _, _, _, _, _, _, _, _, _, _, _, _, _, _, _, _, _, _, _, _, _, _, _, _, _, _, _, _, _, _, _, _, _, _, _, _, _, rfl⟩)⟩
        · have t48 : ((s[0].toNat : Int) == 48) = false := byte_not (k := 48) (by decide) h48
          have hg : Dig s.data.toList false 0 0 := dig_start hb hf (by omega) (by rw [List.drop_zero, hh]; intro e; injection e with e; exact h48 e)
          clear h48 hf hb h45 hh hne
          go_wp2
          go_step3
          refine walk_on (by assumption) (HH.out 2 _ _ _ rfl ⟨rfl, Or.inl ⟨rfl, false, 0, 0, hg, _, _, _, _, _, _, _, _, _, _, _, _, _, _, _, _, _, _, _, _, _, _, _, _, _, _, _, _, _, _, _, _, _, _, _, _, _, _, _, _, _, _, _, _, _, _, _, _, _, _, _, _, _, _, _, _, _, _, _, _, rfl⟩⟩)
    · have hnil : s.data.toList = [] := List.eq_nil_of_length_eq_zero (by omega)
      have hg : Dig s.data.toList false 0 0 := dig_start (by rw [hnil]; simp) (by rw [hnil]; rfl) (by omega) (by rw [hnil]; simp)
      have h0' : (s.size : Int) = 0 := by omega
      clear hnil h0
      go_wp2
      go_step3
      refine walk_on (by assumption) (HH.out 2 _ _ _ rfl ⟨rfl, Or.inl ⟨rfl, false, 0, 0, hg, _, _, _, _, _, _, _, _, _, _, _, _, _, _, _, _, _, _, _, _, _, _, _, _, _, _, _, _, _, _, _, _, _, _, _, _, _, _, _, _, _, _, _, _, _, _, _, _, _, _, _, _, _, _, _, _, _, _, _, _, rfl⟩⟩)
end Go.Proofs.YtfgocdeaanalgaaDoor
