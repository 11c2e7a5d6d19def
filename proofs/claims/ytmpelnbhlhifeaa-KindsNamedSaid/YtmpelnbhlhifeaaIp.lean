/- Where in a list the first one stands that is looked for; names in lists of names (slices.Index, slices.Contains, the document's Has). -/
import Derived.Test.YtmpelnbhlhifeaaQA
import Derived.Test.YtmpelnbhlhifeaaKb
namespace Go.Proofs.Ytmpelnbhlhifeaa
open Go.RowKit

/-- the place of the first that p holds of; -1: of none -/
def ixP {α : Type} (p : α → Bool) : List α → Nat → Int
  | [], _ => -1
  | x :: r, i => if p x = true then i else ixP p r (i + 1)
theorem ix_step {α : Type} {p : α → Bool} {l : List α} {k : Nat} (hk : k < l.length) : ixP p (l.drop k) k = if p l[k] = true then (k : Int) else ixP p (l.drop (k + 1)) (k + 1) := by
  rw [List.drop_eq_getElem_cons hk]; rfl
theorem ix_end {α : Type} {p : α → Bool} {l : List α} {k : Nat} (hk : ¬ k < l.length) : ixP p (l.drop k) k = -1 := by
  rw [List.drop_of_length_le (by omega)]; rfl
theorem ix_find {α : Type} (p : α → Bool) : ∀ (l : List α) (i : Nat), (ixP p l i = -1 ∧ l.find? p = none) ∨ ∃ j, ∃ h : j < l.length, ixP p l i = ((i + j : Nat) : Int) ∧ l.find? p = some l[j]
  | [], i => Or.inl ⟨rfl, rfl⟩
  | x :: r, i => by
    by_cases hx : p x = true
    · refine Or.inr ⟨0, by simp, ?_, ?_⟩
      · unfold ixP; rw [if_pos hx]; rfl
      · simp [hx]
    · have e1 : ixP p (x :: r) i = ixP p r (i + 1) := if_neg hx
      have e2 : (x :: r).find? p = r.find? p := by simp [hx]
      rw [e1, e2]
      rcases ix_find p r (i + 1) with h | ⟨j, hj, h1, h2⟩
      · exact Or.inl h
      · exact Or.inr ⟨j + 1, by simp; omega, by rw [h1]; congr 1; omega, by rw [h2]; rfl⟩
def isN (n : List UInt8) (x : List UInt8) : Bool := decide (x = n)
theorem ix_mem (l : List (List UInt8)) (n : List UInt8) : decide (0 ≤ ixP (isN n) l 0) = decide (n ∈ l) := by
  rcases ix_find (isN n) l 0 with ⟨h1, h2⟩ | ⟨j, hj, h1, h2⟩
  · rw [h1]
    have : n ∉ l := by
      intro hm
      have := List.find?_eq_none.1 h2 n hm
      simp [isN] at this
    simp [this]
  · rw [h1]
    have := List.find?_some h2
    simp [isN] at this
    have hm : n ∈ l := by rw [← this]; exact List.getElem_mem _
    simp [hm]
theorem ix_range {α : Type} (p : α → Bool) (l : List α) : ixP p l 0 = -1 ∨ (0 ≤ ixP p l 0 ∧ ixP p l 0 < l.length) := by
  rcases ix_find p l 0 with ⟨h1, h2⟩ | ⟨j, hj, h1, h2⟩
  · exact Or.inl h1
  · right; rw [h1]; omega

/-- a string's bytes, as the walk compares them -/
theorem str_ne {X Y : ByteArray} (h : X.data.toList ≠ Y.data.toList) : (X.toList == Y.toList) = false := by
  rw [Lib.toList_data, Lib.toList_data]; exact beq_eq_false_iff_ne.2 h
theorem str_eq {X Y : ByteArray} (h : X.data.toList = Y.data.toList) : X = Y := by apply ByteArray.ext; exact Array.toList_inj.1 h
theorem bstr_some (l : List UInt8) : ∃ X : ByteArray, bstr l = .string X ∧ X.data.toList = l := ⟨⟨l.toArray⟩, rfl, rfl⟩

set_option maxHeartbeats 1000000 in
theorem strIndex_any (v : Value) (xs : List (List UInt8)) (N : ByteArray) (w : World) (hR : RdW w v xs) (hl : xs.length ≤ 9223372036854775807) :
    Calls Try.prog 32 #[v, .string N] w fun e w' => e = .returned (.int .i64 (ixP (isN N.data.toList) xs 0)) ∧ w = w' := by
  obtain ⟨A, c, rfl⟩ := hR.form
  have HR := Lib.hid hR; clear hR
  obtain ⟨n, hn⟩ : ∃ n, xs.length = n := ⟨_, rfl⟩
  have HN := Lib.hid hn
  rw [hn] at hl HR ⊢
  clear hn
  go_enter Try.func32, Try.ntmps32
  go_wp2
  go_loop [4, 5, 8] (fun x4 x5 i => x4 = .int .i64 0 ∧ (x5 = .int .i64 0 ∨ True) ∧ ∃ k : Nat, k ≤ n ∧ i = .int .i64 k ∧ Hid (ixP (isN N.data.toList) (xs.drop k) k = ixP (isN N.data.toList) xs 0)) (fun _ _ i => n - (intOf i).toNat)
  case atStart => exact ⟨rfl, Or.inr trivial, 0, by omega, rfl, rfl⟩
  case round =>
    obtain ⟨rfl, _, k, hk, rfl, HI⟩ := hrel
    by_cases hkn : k < n
    · obtain ⟨b, o, rfl, _, hc⟩ := HR.out.at_ (k := k) (by rw [HN.out]; exact hkn)
      have hst := ix_step (p := isN N.data.toList) (l := xs) (k := k) (by rw [HN.out]; exact hkn)
      rw [HI.out] at hst
      obtain ⟨X, hX, hXl⟩ := bstr_some (xs[k]'(by rw [HN.out]; exact hkn))
      rw [hX] at hc
      rw [← hXl] at hst
      clear hX hXl
      by_cases he : X.data.toList = N.data.toList
      · obtain rfl := str_eq he
        have hr : ixP (isN X.data.toList) xs 0 = k := by rw [hst, if_pos (by simp [isN])]
        have HRR := Lib.hid hr
        clear hst hr he HI
        go_wp2
        go_ret
        exact ⟨ret_int HRR.out.symm, rfl⟩
      · have hr : ixP (isN N.data.toList) (xs.drop (k + 1)) (k + 1) = ixP (isN N.data.toList) xs 0 := by rw [hst, if_neg (by simp [isN, he])]
        have HRR := Lib.hid hr
        have hne := str_ne he
        have hne' := str_ne (Ne.symm he)
        clear hst hr he HI
        go_wp2
        go_round
        case rel => exact ⟨rfl, Or.inr trivial, k + 1, by omega, by go_num, HRR.out⟩
        case measure => simp [intOf]; omega
    · have hr : ixP (isN N.data.toList) xs 0 = -1 := by rw [← HI.out, ix_end (by rw [HN.out]; exact hkn)]
      have HRR := Lib.hid hr
      clear hr HI
      go_wp2
      go_ret
      exact ⟨ret_int HRR.out.symm, rfl⟩

theorem strContains_any (v : Value) (xs : List (List UInt8)) (N : ByteArray) (w : World) (hR : RdW w v xs) (hl : xs.length ≤ 9223372036854775807) :
    Calls Try.prog 23 #[v, .string N] w fun e w' => e = .returned (.bool (decide (N.data.toList ∈ xs))) ∧ w = w' := by
  have HI := Lib.hid (strIndex_any v xs N w hR hl)
  have HM := Lib.hid (ix_mem xs N.data.toList)
  clear hR
  go_enter Try.func23, Try.ntmps23
  go_wp2_with fail
  refine HI.out.mono ?_
  rintro e w1 ⟨rfl, rfl⟩
  go_wp2
  go_ret
  exact ⟨ret_bool HM.out, rfl⟩

set_option maxHeartbeats 1000000 in
theorem refHas_any (v : Value) (xs : List (List UInt8)) (N : ByteArray) (w : World) (hR : RdW w v xs) (hl : xs.length ≤ 9223372036854775807) :
    Calls Try.prog 34 #[v, .string N] w fun e w' => e = .returned (.bool (decide (N.data.toList ∈ xs))) ∧ w = w' := by
  obtain ⟨A, c, rfl⟩ := hR.form
  have HR := Lib.hid hR; clear hR
  have HM := Lib.hid (ix_mem xs N.data.toList)
  obtain ⟨n, hn⟩ : ∃ n, xs.length = n := ⟨_, rfl⟩
  have HN := Lib.hid hn
  rw [hn] at hl HR ⊢
  clear hn
  go_enter Try.func34, Try.ntmps34
  go_wp2
  go_loop [4, 5] (fun x4 i => x4 = .bool false ∧ ∃ k : Nat, k ≤ n ∧ i = .int .i64 k ∧ Hid (ixP (isN N.data.toList) (xs.drop k) k = ixP (isN N.data.toList) xs 0)) (fun _ i => n - (intOf i).toNat)
  case atStart => exact ⟨rfl, 0, by omega, rfl, rfl⟩
  case round =>
    obtain ⟨rfl, k, hk, rfl, HI⟩ := hrel
    by_cases hkn : k < n
    · obtain ⟨b, o, rfl, _, hc⟩ := HR.out.at_ (k := k) (by rw [HN.out]; exact hkn)
      have hst := ix_step (p := isN N.data.toList) (l := xs) (k := k) (by rw [HN.out]; exact hkn)
      rw [HI.out] at hst
      obtain ⟨X, hX, hXl⟩ := bstr_some (xs[k]'(by rw [HN.out]; exact hkn))
      rw [hX] at hc
      rw [← hXl] at hst
      clear hX hXl
      by_cases he : X.data.toList = N.data.toList
      · obtain rfl := str_eq he
        have hr : decide (X.data.toList ∈ xs) = true := by rw [← HM.out, hst, if_pos (by simp [isN])]; simp
        have HRR := Lib.hid hr
        clear hst hr he HI
        go_wp2
        go_ret
        exact ⟨ret_bool HRR.out.symm, rfl⟩
      · have hr : ixP (isN N.data.toList) (xs.drop (k + 1)) (k + 1) = ixP (isN N.data.toList) xs 0 := by rw [hst, if_neg (by simp [isN, he])]
        have HRR := Lib.hid hr
        have hne := str_ne he
        have hne' := str_ne (Ne.symm he)
        clear hst hr he HI
        go_wp2
        go_round
        case rel => exact ⟨rfl, k + 1, by omega, by go_num, HRR.out⟩
        case measure => simp [intOf]; omega
    · have hr : decide (N.data.toList ∈ xs) = false := by rw [← HM.out, ← HI.out, ix_end (by rw [HN.out]; exact hkn)]; rfl
      have HRR := Lib.hid hr
      clear hr HI
      go_wp2
      go_ret
      exact ⟨ret_bool HRR.out.symm, rfl⟩
end Go.Proofs.Ytmpelnbhlhifeaa
