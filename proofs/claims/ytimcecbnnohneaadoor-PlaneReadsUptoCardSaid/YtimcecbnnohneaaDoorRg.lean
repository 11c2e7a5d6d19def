/- The document's Read (package quintainref01) at every text. -/
import Derived.Test.YtimcecbnnohneaaDoorRf
namespace Go.Proofs.YtimcecbnnohneaaDoor
open Go.RowKit

theorem refT_cons (a : Int) (c : UInt8) (t : List UInt8) : refT a (c :: t) = if c = 43 then (if t.head? = some 45 then none else finL a t) else if c = 45 then finL a (c :: t) else none := by rw [refT]

theorem wholeL_le (l : List UInt8) : (wholeL l).2 ≤ l.length := by
  by_cases h : (wholeL l).2 = 0
  · omega
  · exact (wholeL_some l _ _ rfl h).1

/-- what the document's Read comes to -/
def RefPost (l : List UInt8) (w : World) (e : Ending) (w' : World) : Prop :=
  Below w.heap.size w w' ∧
    ((∃ a b, refL l = some (a, b) ∧ e = .returned (.tuple #[.agg #[.int .i64 a, .int .i64 b], .int .i64 0])) ∨
     (refL l = none ∧ e = .returned (.tuple #[.agg #[.int .i64 0, .int .i64 0], .int .i64 1])))

set_option maxHeartbeats 1000000 in
theorem ref_any (s : ByteArray) (w : World) (hs : s.size < 4294967281) :
    Calls Tryd.prog 5 #[.string s] w (RefPost s.data.toList w) := by
  have hle := wholeL_le s.data.toList
  rw [← Lib.size_eq] at hle
  have hw := fun w => whole_any s w hs
  obtain ⟨a, ha⟩ : ∃ a, a = (wholeL s.data.toList).1 := ⟨_, rfl⟩
  obtain ⟨n, hn⟩ : ∃ n, n = (wholeL s.data.toList).2 := ⟨_, rfl⟩
  have hr : refL s.data.toList = if n = 0 ∨ n = s.size then none else refT a (s.data.toList.drop n) := by
    unfold refL; rw [ha, hn, Lib.size_eq]
  rw [← ha, ← hn] at hw
  rw [← hn] at hle
  have HW := Lib.hid hw; have HR := Lib.hid hr
  clear hw ha hn hr
  by_cases hn0 : n = 0
  · subst hn0
    rw [if_pos (Or.inl rfl)] at HR
    go_enter Tryd.func5, Tryd.ntmps5
    go_wp2_with (go_at_call 10; fail)
    refine (HW.out _).mono ?_; rintro e w' ⟨rfl, rfl⟩
    go_wp2
    exact bodyPost_ret (v := .tuple #[.agg #[.int .i64 0, .int .i64 0], .int .i64 1]) (by simp [results, Tryd.results5, go_sem]) rfl ⟨(Below.refl _ _).alloc (Nat.le_refl _) _, Or.inr ⟨HR.out, rfl⟩⟩
  · have hn1 : ((n : Int) == 0) = false := beq_eq_false_iff_ne.2 (by omega)
    by_cases hns : n = s.size
    · have hn2 : ((n : Int) == (s.size : Int)) = true := beq_iff_eq.2 (by omega)
      rw [if_pos (Or.inr hns)] at HR
      clear hns
      go_enter Tryd.func5, Tryd.ntmps5
      go_wp2_with (go_at_call 10; fail)
      refine (HW.out _).mono ?_; rintro e w' ⟨rfl, rfl⟩
      go_wp2
      exact bodyPost_ret (v := .tuple #[.agg #[.int .i64 0, .int .i64 0], .int .i64 1]) (by simp [results, Tryd.results5, go_sem]) rfl ⟨(Below.refl _ _).alloc (Nat.le_refl _) _, Or.inr ⟨HR.out, rfl⟩⟩
    · have hn2 : ((n : Int) == (s.size : Int)) = false := beq_eq_false_iff_ne.2 (by omega)
      rw [if_neg (by rintro (h | h); exact hn0 h; exact hns h)] at HR
      have hsz : (s.extract n s.size).size = s.size - n := by rw [Lib.size_eq, Lib.extract_to_end, List.length_drop, ← Lib.size_eq]
      have hl0 : 0 < (s.extract n s.size).size := by omega
      have hcons : s.data.toList.drop n = (s.extract n s.size)[0]'hl0 :: s.data.toList.drop (n + 1) := by
        have h1 := head_at (s.extract n s.size) hl0
        rw [Lib.extract_to_end] at h1
        rw [drop_at s.data.toList n (by rw [← Lib.size_eq]; omega)] at h1 ⊢
        injection h1 with h1
        rw [h1]
      rw [hcons] at HR
      have h0 : 0 < s.size - n := by omega
      have hd1 : s.data.toList.drop (n + 1) = ((s.extract n s.size).extract 1 (s.size - n)).data.toList := by
        rw [← hsz, Lib.extract_to_end, Lib.extract_to_end, List.drop_drop]
      have hds : ((s.extract n s.size).extract 1 (s.size - n)).size = s.size - n - 1 := by
        rw [Lib.size_eq, ← hd1, List.length_drop, ← Lib.size_eq]; omega
      have HD1 := Lib.hid hd1; have HDS := Lib.hid hds; have HSZ := Lib.hid hsz; have HC := Lib.hid hcons
      clear hsz hcons hns hd1 hds
      cases c43 : ((((s.extract n s.size)[0]'hl0).toNat : Int) == 43)
      · have n43 : (s.extract n s.size)[0]'hl0 ≠ 43 := byte_ne (k := 43) c43 (by decide)
        rw [refT_cons] at HR
        rw [if_neg n43] at HR
        clear n43
        cases c45 : ((((s.extract n s.size)[0]'hl0).toNat : Int) != 45)
        · have n45 : (s.extract n s.size)[0]'hl0 = 45 := byte_eq (k := 45) (by rw [bne_eq_false_iff_eq] at c45; exact beq_iff_eq.2 c45) (by decide)
          rw [if_pos n45, ← HC.out, ← Lib.extract_to_end] at HR
          clear n45
          go_enter Tryd.func5, Tryd.ntmps5
          go_wp2_with (go_at_call 10; fail)
          refine (HW.out _).mono ?_; rintro e w' ⟨rfl, rfl⟩
          go_wp2_with fail
          have hts : (s.extract n s.size).size < 4294967281 := by have := HSZ.out; omega
          obtain ⟨b, hb⟩ : ∃ b, b = (wholeL (s.extract n s.size).data.toList).1 := ⟨_, rfl⟩
          obtain ⟨m, hm⟩ : ∃ m, m = (wholeL (s.extract n s.size).data.toList).2 := ⟨_, rfl⟩
          have hmle := wholeL_le (s.extract n s.size).data.toList
          have hw2 := fun w => whole_any ((s.extract n s.size)) w hts
          rw [← hb, ← hm] at hw2
          rw [← Lib.size_eq, ← hm, HSZ.out] at hmle
          have hfin : finL a (s.extract n s.size).data.toList = if m = 0 ∨ ((s.extract n s.size).extract m (s.size - n)).toList ≠ [105] ∨ inB a = false ∨ inB b = false then none else some (a, b) := by
            unfold finL; rw [← HSZ.out, hm, hb, Lib.toList_data]; simp only [Lib.extract_to_end]
          have HF := Lib.hid hfin; have HW2 := Lib.hid hw2; clear hb hm hw2 hfin hts
          refine (HW2.out _).mono ?_; rintro e w1 ⟨rfl, rfl⟩
          by_cases hm0 : m = 0
          · subst hm0
            rw [HF.out, if_pos (Or.inl rfl)] at HR
            go_wp2
            exact bodyPost_ret (v := .tuple #[.agg #[.int .i64 0, .int .i64 0], .int .i64 1]) (by simp [results, Tryd.results5, go_sem]) rfl ⟨(Below.refl _ _).alloc (Nat.le_refl _) _, Or.inr ⟨HR.out, rfl⟩⟩
          · have hm1 : ((m : Int) == 0) = false := beq_eq_false_iff_ne.2 (by omega)
            cases htl : (((s.extract n s.size).extract m (s.size - n)).toList == [105])
            · rw [HF.out, if_pos (Or.inr (Or.inl (beq_eq_false_iff_ne.1 htl)))] at HR
              go_wp2
              exact bodyPost_ret (v := .tuple #[.agg #[.int .i64 0, .int .i64 0], .int .i64 1]) (by simp [results, Tryd.results5, go_sem]) rfl ⟨(Below.refl _ _).alloc (Nat.le_refl _) _, Or.inr ⟨HR.out, rfl⟩⟩
            · cases hia : inB a
              · rw [HF.out, if_pos (Or.inr (Or.inr (Or.inl hia)))] at HR
                go_wp2_with (go_at_call 11; refine (in_any _ _).mono ?_; rintro e w' ⟨rfl, rfl⟩)
                exact bodyPost_ret (v := .tuple #[.agg #[.int .i64 0, .int .i64 0], .int .i64 1]) (by simp [results, Tryd.results5, go_sem]) rfl ⟨(Below.refl _ _).alloc (Nat.le_refl _) _, Or.inr ⟨HR.out, rfl⟩⟩
              · cases hib : inB b
                · rw [HF.out, if_pos (Or.inr (Or.inr (Or.inr hib)))] at HR
                  go_wp2_with (go_at_call 11; refine (in_any _ _).mono ?_; rintro e w' ⟨rfl, rfl⟩)
                  exact bodyPost_ret (v := .tuple #[.agg #[.int .i64 0, .int .i64 0], .int .i64 1]) (by simp [results, Tryd.results5, go_sem]) rfl ⟨(Below.refl _ _).alloc (Nat.le_refl _) _, Or.inr ⟨HR.out, rfl⟩⟩
                · rw [HF.out, if_neg (by simp only [hm0, beq_iff_eq.1 htl, hia, hib]; decide)] at HR
                  go_wp2_with (go_at_call 11; refine (in_any _ _).mono ?_; rintro e w' ⟨rfl, rfl⟩)
                  exact bodyPost_ret (v := .tuple #[.agg #[.int .i64 a, .int .i64 b], .int .i64 0]) (by simp [results, Tryd.results5, go_sem]) rfl ⟨(Below.refl _ _).alloc (Nat.le_refl _) _, Or.inl ⟨a, b, HR.out, rfl⟩⟩
        · have n45 : (s.extract n s.size)[0]'hl0 ≠ 45 := byte_ne (k := 45) (by rw [bne_iff_ne] at c45; exact beq_eq_false_iff_ne.2 c45) (by decide)
          rw [if_neg n45] at HR
          clear n45
          go_enter Tryd.func5, Tryd.ntmps5
          go_wp2_with (go_at_call 10; fail)
          refine (HW.out _).mono ?_; rintro e w' ⟨rfl, rfl⟩
          go_wp2
          exact bodyPost_ret (v := .tuple #[.agg #[.int .i64 0, .int .i64 0], .int .i64 1]) (by simp [results, Tryd.results5, go_sem]) rfl ⟨(Below.refl _ _).alloc (Nat.le_refl _) _, Or.inr ⟨HR.out, rfl⟩⟩
      · have n43 : (s.extract n s.size)[0]'hl0 = 43 := byte_eq (k := 43) c43 (by decide)
        rw [refT_cons] at HR
        rw [if_pos n43, HD1.out] at HR
        clear n43
        by_cases hq : 0 < s.size - n - 1
        · have hq' : 0 < ((s.extract n s.size).extract 1 (s.size - n)).size := by rw [HDS.out]; exact hq
          rw [head_at _ hq'] at HR
          cases c45 : (((((s.extract n s.size).extract 1 (s.size - n))[0]'hq').toNat : Int) == 45)
          · have n45 : ((s.extract n s.size).extract 1 (s.size - n))[0]'hq' ≠ 45 := byte_ne (k := 45) c45 (by decide)
            rw [if_neg (fun h => n45 (Option.some.inj h))] at HR
            clear n45
            go_enter Tryd.func5, Tryd.ntmps5
            go_wp2_with (go_at_call 10; fail)
            refine (HW.out _).mono ?_; rintro e w' ⟨rfl, rfl⟩
            go_wp2_with fail
            have hts : ((s.extract n s.size).extract 1 (s.size - n)).size < 4294967281 := by have := HDS.out; omega
            obtain ⟨b, hb⟩ : ∃ b, b = (wholeL ((s.extract n s.size).extract 1 (s.size - n)).data.toList).1 := ⟨_, rfl⟩
            obtain ⟨m, hm⟩ : ∃ m, m = (wholeL ((s.extract n s.size).extract 1 (s.size - n)).data.toList).2 := ⟨_, rfl⟩
            have hmle := wholeL_le ((s.extract n s.size).extract 1 (s.size - n)).data.toList
            have hw2 := fun w => whole_any (((s.extract n s.size).extract 1 (s.size - n))) w hts
            rw [← hb, ← hm] at hw2
            rw [← Lib.size_eq, ← hm, HDS.out] at hmle
            have hfin : finL a ((s.extract n s.size).extract 1 (s.size - n)).data.toList = if m = 0 ∨ (((s.extract n s.size).extract 1 (s.size - n)).extract m (s.size - n - 1)).toList ≠ [105] ∨ inB a = false ∨ inB b = false then none else some (a, b) := by
              unfold finL; rw [← HDS.out, hm, hb, Lib.toList_data]; simp only [Lib.extract_to_end]
            have HF := Lib.hid hfin; have HW2 := Lib.hid hw2; clear hb hm hw2 hfin hts
            refine (HW2.out _).mono ?_; rintro e w1 ⟨rfl, rfl⟩
            by_cases hm0 : m = 0
            · subst hm0
              rw [HF.out, if_pos (Or.inl rfl)] at HR
              go_wp2
              exact bodyPost_ret (v := .tuple #[.agg #[.int .i64 0, .int .i64 0], .int .i64 1]) (by simp [results, Tryd.results5, go_sem]) rfl ⟨(Below.refl _ _).alloc (Nat.le_refl _) _, Or.inr ⟨HR.out, rfl⟩⟩
            · have hm1 : ((m : Int) == 0) = false := beq_eq_false_iff_ne.2 (by omega)
              cases htl : ((((s.extract n s.size).extract 1 (s.size - n)).extract m (s.size - n - 1)).toList == [105])
              · rw [HF.out, if_pos (Or.inr (Or.inl (beq_eq_false_iff_ne.1 htl)))] at HR
                go_wp2
                exact bodyPost_ret (v := .tuple #[.agg #[.int .i64 0, .int .i64 0], .int .i64 1]) (by simp [results, Tryd.results5, go_sem]) rfl ⟨(Below.refl _ _).alloc (Nat.le_refl _) _, Or.inr ⟨HR.out, rfl⟩⟩
              · cases hia : inB a
                · rw [HF.out, if_pos (Or.inr (Or.inr (Or.inl hia)))] at HR
                  go_wp2_with (go_at_call 11; refine (in_any _ _).mono ?_; rintro e w' ⟨rfl, rfl⟩)
                  exact bodyPost_ret (v := .tuple #[.agg #[.int .i64 0, .int .i64 0], .int .i64 1]) (by simp [results, Tryd.results5, go_sem]) rfl ⟨(Below.refl _ _).alloc (Nat.le_refl _) _, Or.inr ⟨HR.out, rfl⟩⟩
                · cases hib : inB b
                  · rw [HF.out, if_pos (Or.inr (Or.inr (Or.inr hib)))] at HR
                    go_wp2_with (go_at_call 11; refine (in_any _ _).mono ?_; rintro e w' ⟨rfl, rfl⟩)
                    exact bodyPost_ret (v := .tuple #[.agg #[.int .i64 0, .int .i64 0], .int .i64 1]) (by simp [results, Tryd.results5, go_sem]) rfl ⟨(Below.refl _ _).alloc (Nat.le_refl _) _, Or.inr ⟨HR.out, rfl⟩⟩
                  · rw [HF.out, if_neg (by simp only [hm0, beq_iff_eq.1 htl, hia, hib]; decide)] at HR
                    go_wp2_with (go_at_call 11; refine (in_any _ _).mono ?_; rintro e w' ⟨rfl, rfl⟩)
                    exact bodyPost_ret (v := .tuple #[.agg #[.int .i64 a, .int .i64 b], .int .i64 0]) (by simp [results, Tryd.results5, go_sem]) rfl ⟨(Below.refl _ _).alloc (Nat.le_refl _) _, Or.inl ⟨a, b, HR.out, rfl⟩⟩
          · have n45 : ((s.extract n s.size).extract 1 (s.size - n))[0]'hq' = 45 := byte_eq (k := 45) c45 (by decide)
            rw [if_pos (congrArg some n45)] at HR
            clear n45
            go_enter Tryd.func5, Tryd.ntmps5
            go_wp2_with (go_at_call 10; fail)
            refine (HW.out _).mono ?_; rintro e w' ⟨rfl, rfl⟩
            go_wp2
            exact bodyPost_ret (v := .tuple #[.agg #[.int .i64 0, .int .i64 0], .int .i64 1]) (by simp [results, Tryd.results5, go_sem]) rfl ⟨(Below.refl _ _).alloc (Nat.le_refl _) _, Or.inr ⟨HR.out, rfl⟩⟩
        · rw [if_neg (by
            intro h
            have h2 := HDS.out
            have h3 : ((s.extract n s.size).extract 1 (s.size - n)).data.toList = [] := by
              rw [← List.length_eq_zero_iff, ← Lib.size_eq]; omega
            rw [h3] at h; cases h)] at HR
          go_enter Tryd.func5, Tryd.ntmps5
          go_wp2_with (go_at_call 10; fail)
          refine (HW.out _).mono ?_; rintro e w' ⟨rfl, rfl⟩
          go_wp2_with fail
          have hts : ((s.extract n s.size).extract 1 (s.size - n)).size < 4294967281 := by have := HDS.out; omega
          obtain ⟨b, hb⟩ : ∃ b, b = (wholeL ((s.extract n s.size).extract 1 (s.size - n)).data.toList).1 := ⟨_, rfl⟩
          obtain ⟨m, hm⟩ : ∃ m, m = (wholeL ((s.extract n s.size).extract 1 (s.size - n)).data.toList).2 := ⟨_, rfl⟩
          have hmle := wholeL_le ((s.extract n s.size).extract 1 (s.size - n)).data.toList
          have hw2 := fun w => whole_any (((s.extract n s.size).extract 1 (s.size - n))) w hts
          rw [← hb, ← hm] at hw2
          rw [← Lib.size_eq, ← hm, HDS.out] at hmle
          have hfin : finL a ((s.extract n s.size).extract 1 (s.size - n)).data.toList = if m = 0 ∨ (((s.extract n s.size).extract 1 (s.size - n)).extract m (s.size - n - 1)).toList ≠ [105] ∨ inB a = false ∨ inB b = false then none else some (a, b) := by
            unfold finL; rw [← HDS.out, hm, hb, Lib.toList_data]; simp only [Lib.extract_to_end]
          have HF := Lib.hid hfin; have HW2 := Lib.hid hw2; clear hb hm hw2 hfin hts
          refine (HW2.out _).mono ?_; rintro e w1 ⟨rfl, rfl⟩
          by_cases hm0 : m = 0
          · subst hm0
            rw [HF.out, if_pos (Or.inl rfl)] at HR
            go_wp2
            exact bodyPost_ret (v := .tuple #[.agg #[.int .i64 0, .int .i64 0], .int .i64 1]) (by simp [results, Tryd.results5, go_sem]) rfl ⟨(Below.refl _ _).alloc (Nat.le_refl _) _, Or.inr ⟨HR.out, rfl⟩⟩
          · omega
end Go.Proofs.YtimcecbnnohneaaDoor
