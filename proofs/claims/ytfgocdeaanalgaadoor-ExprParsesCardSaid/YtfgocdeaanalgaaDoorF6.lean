/- What is shown is read to what it was. -/
import Derived.Test.YtfgocdeaanalgaaDoorF5
namespace Go.Proofs.YtfgocdeaanalgaaDoor

theorem itoa_13 {a : Int} (ha0 : 0 ≤ a) (ha1 : a ≤ 1099511627776) : (Lib.itoa a).length ≤ 13 := by
  rw [itoa_nat ha0]
  have : ∀ (k u : Nat), u < 10 ^ (k + 1) → (Lib.decDigits u).length ≤ k + 1 := by
    intro k
    induction k with
    | zero => intro u hu; rw [dec_small (by omega)]; simp
    | succ k ih =>
      intro u hu
      by_cases h : u < 10
      · rw [dec_small h]; simp
      · rw [dec_big h]
        have := ih (u / 10) (by rw [Nat.pow_succ] at hu; omega)
        simp; omega
  exact this 12 _ (by omega)

theorem leaf_len {c : CM} (h : OkT (.leaf c)) : (joinP c none0 none0).1.length ≤ 16 := by
  have h16 : 1 ≤ c.op ∧ c.op ≤ 6 := by
    have h1 := formed_op h.1
    have ho := h.2
    unfold operN at ho
    split at ho
    · assumption
    · split at ho <;> omega
  have hn := formed_name h.1
  unfold joinP
  split
  · rename_i e; have := formed_num h.1 (Or.inl e); have := itoa_13 this.1 this.2; simp only; omega
  · split
    · rename_i e; have := formed_num h.1 (Or.inr e); have := itoa_13 this.1 this.2; simp only [List.length_append, List.length_singleton]; omega
    · split
      · simp [wTrue]
      · split
        · simp [wFalse]
        · split
          · simp only; omega
          · split
            · simp; omega
            · exfalso; omega
theorem post_pos (t : T) : 1 ≤ (post t).length := by
  cases t <;> simp [post] <;> omega
theorem text_len {t : T} (h : OkT t) : (pcT t).1.length + 2 ≤ 18 * (post t).length := by
  induction t with
  | leaf c => have := leaf_len h; show (joinP c none0 none0).1.length + 2 ≤ 18 * 1; omega
  | un o t ih =>
    have := ih h.2.2
    have hc : o = 7 ∨ o = 8 ∨ o = 9 ∨ o = 10 := by have := h.1; have := h.2.1; omega
    have hp : (post (.un o t)).length = (post t).length + 1 := by simp [post]
    have h6 := inP_len (pcT t).1 (pcT t).2 6
    rw [hp]
    rcases hc with rfl | rfl | rfl | rfl
    · show ([45] ++ inP (pcT t).1 (pcT t).2 6).length + 2 ≤ _; simp; omega
    · show ([33] ++ inP (pcT t).1 (pcT t).2 6).length + 2 ≤ _; simp; omega
    · show ([114, 101, 40] ++ (pcT t).1 ++ [41]).length + 2 ≤ _; simp; omega
    · show ([105, 109, 40] ++ (pcT t).1 ++ [41]).length + 2 ≤ _; simp; omega
  | bin o l r ihl ihr =>
    have h1 := ihl h.2.2.1
    have h2 := ihr h.2.2.2
    have hp : (post (.bin o l r)).length = (post l).length + (post r).length + 1 := by simp [post]; omega
    have h3 := betP_len (o - 11).toNat (pcT l) (pcT r)
    rw [hp]
    show (joinP (opC o) (pcT l) (pcT r)).1.length + 2 ≤ _
    rw [joinP_bin h.1]
    omega

theorem read_text {t : T} (h : OkT t) (hl : (post t).length ≤ 32) : parseP (pcT t).1 = (post t, 0, 0) := by
  have h1 := text_len h
  have hs := strength h
  have hE := (U_all (pcT t).1 t h).plain h (p := 0) (cs := []) (k := 1) (At.all _) (by rw [Nat.zero_add]; exact fol_end) (by omega) (by omega) (by omega) (by rw [Nat.zero_add, opAt_end]; decide)
  rw [Nat.zero_add, List.nil_append] at hE
  rw [parse_E, if_neg (by omega), hE, if_neg (by simp), if_neg (by simp only; omega)]
theorem back {cs : List CM} (h : rightB cs = true) : parseP (showP cs).1 = (cs, 0, 0) ∧ (showP cs).2 = 0 := by
  obtain ⟨t, h1, rfl⟩ := right_tree h
  have hl : (post t).length ≤ 32 := by unfold rightB at h; simp at h; exact h.1
  rw [tree_show h1 hl]
  exact ⟨read_text h1 hl, rfl⟩
theorem show_no {cs : List CM} (h : rightB cs = false) : showP cs = ([], 1) := by unfold showP; rw [h]; rfl
end Go.Proofs.YtfgocdeaanalgaaDoor
