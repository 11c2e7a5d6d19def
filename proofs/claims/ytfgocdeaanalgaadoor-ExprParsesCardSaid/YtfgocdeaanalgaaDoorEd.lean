/- The reader's small calls: isDigit, isSign, closed, word. -/
import Derived.Test.YtfgocdeaanalgaaDoorEc
namespace Go.Proofs.YtfgocdeaanalgaaDoor
open Go.RowKit

theorem exDigit_any (c : UInt8) (w : World) :
    Calls Tryd.prog 55 #[.int .u8 c.toNat] w fun e w' => e = .returned (.bool (isD c)) ∧ w = w' := by
  by_cases h1 : (48 : Int) ≤ c.toNat
  · by_cases h2 : (c.toNat : Int) ≤ 57
    · have hL : isD c = true := decide_eq_true ⟨by omega, by omega⟩
      rw [hL]; clear hL
      go_enter Tryd.func55, Tryd.ntmps55
      go_wp2
      go_ret
      exact ⟨rfl, rfl⟩
    · have hL : isD c = false := decide_eq_false (fun h => h2 (by omega))
      rw [hL]; clear hL
      go_enter Tryd.func55, Tryd.ntmps55
      go_wp2
      go_ret
      exact ⟨rfl, rfl⟩
  · have hL : isD c = false := decide_eq_false (fun h => h1 (by omega))
    rw [hL]; clear hL
    go_enter Tryd.func55, Tryd.ntmps55
    go_wp2
    go_ret
    exact ⟨rfl, rfl⟩

theorem okB_cases (c : UInt8) : (okB c = true ∧ ((97 ≤ (c.toNat : Int) ∧ (c.toNat : Int) ≤ 122) ∨ (¬ (97 ≤ (c.toNat : Int) ∧ (c.toNat : Int) ≤ 122) ∧ isD c = true) ∨ (¬ (97 ≤ (c.toNat : Int) ∧ (c.toNat : Int) ≤ 122) ∧ isD c = false ∧ ((c.toNat : Int) == 95) = true))) ∨
    (okB c = false ∧ ¬ (97 ≤ (c.toNat : Int) ∧ (c.toNat : Int) ≤ 122) ∧ isD c = false ∧ ((c.toNat : Int) == 95) = false) := by
  unfold okB
  have hL : isLB c = decide (97 ≤ (c.toNat : Int) ∧ (c.toNat : Int) ≤ 122) := by
    unfold isLB
    by_cases h : 97 ≤ c.toNat ∧ c.toNat ≤ 122
    · rw [decide_eq_true h, decide_eq_true (by omega)]
    · rw [decide_eq_false h, decide_eq_false (by omega)]
  by_cases h : 97 ≤ (c.toNat : Int) ∧ (c.toNat : Int) ≤ 122
  · rw [hL, decide_eq_true h]; exact Or.inl ⟨rfl, Or.inl h⟩
  · rw [hL, decide_eq_false h]
    cases hd : isD c
    · by_cases h95 : c = 95
      · subst h95; exact Or.inl ⟨rfl, Or.inr (Or.inr ⟨h, rfl, rfl⟩)⟩
      · have : (c == 95) = false := beq_eq_false_iff_ne.2 h95
        rw [this]
        exact Or.inr ⟨rfl, h, rfl, byte_not (k := 95) (by decide) h95⟩
    · exact Or.inl ⟨rfl, Or.inr (Or.inl ⟨h, rfl⟩)⟩

theorem exSign_any (c : UInt8) (w : World) :
    Calls Tryd.prog 68 #[.int .u8 c.toNat] w fun e w' => e = .returned (.bool (okB c)) ∧ w = w' := by
  rcases okB_cases c with ⟨hk, ⟨h1, h2⟩ | ⟨h1, h2⟩ | ⟨h1, h2, h3⟩⟩ | ⟨hk, h1, h2, h3⟩
  · rw [hk]; clear hk
    go_enter Tryd.func68, Tryd.ntmps68
    go_wp2
    go_ret
    exact ⟨rfl, rfl⟩
  all_goals
    rw [hk]; clear hk
    by_cases ha : (97 : Int) ≤ c.toNat
    · have hb : ¬ (c.toNat : Int) ≤ 122 := fun h => h1 ⟨ha, h⟩
      clear h1
      go_enter Tryd.func68, Tryd.ntmps68
      go_wp2_with (go_at_call 55; refine (exDigit_any _ _).mono ?_; rintro e w' ⟨rfl, rfl⟩)
      go_ret
      exact ⟨rfl, rfl⟩
    · clear h1
      go_enter Tryd.func68, Tryd.ntmps68
      go_wp2_with (go_at_call 55; refine (exDigit_any _ _).mono ?_; rintro e w' ⟨rfl, rfl⟩)
      go_ret
      exact ⟨rfl, rfl⟩

/-- what a reading leaves -/
def RPost (w0 wa : World) (g : Nat) (s : ByteArray) (r : Rs) (e : Ending) (w' : World) : Prop := e = .returned (.bool r.1) ∧ St w0 wa g s r.2.1 r.2.2 w'

theorem closed_any {w0 wa w : World} {g : Nat} {s : ByteArray} {p : Nat} {cs : List CM} (h : St w0 wa g s p cs w) (hp : p ≤ s.size) (hs : s.size ≤ 600) :
    Calls Tryd.prog 66 #[rp g] w (RPost w0 wa g s (closeD s.data.toList (true, p, cs))) := by
  have hnx := next_any h hp
  obtain ⟨v, ⟨c0, c1, c2, f1, f2⟩, hbox, hown⟩ := h.at_
  clear hbox hown
  by_cases h41 : nx s.data.toList p = 41
  · have HR : Hid (∀ n, RPost w0 wa g s (closeD s.data.toList (true, p, cs)) (.returned (.bool true)) ((w.drewN n).setCell ⟨g, 1, none⟩ (.int .i64 ((p : Int) + 1)))) := by
      intro n
      unfold closeD
      rw [if_pos rfl, if_pos h41]
      exact ⟨rfl, (h.drewN n).setAt _ (by simp)⟩
    have t41 : (((nx s.data.toList p).toNat : Int) != 41) = false := by simp [h41]
    have HN := Lib.hid hnx; clear h h41 hnx
    unfold rp at HN ⊢
    go_enter Tryd.func66, Tryd.ntmps66
    go_wp2_with (go_at_call 47; refine HN.out.mono ?_; rintro e w' ⟨rfl, n, rfl⟩)
    go_ret
    exact HR.out _
  · have HR : Hid (∀ n, RPost w0 wa g s (closeD s.data.toList (true, p, cs)) (.returned (.bool false)) (w.drewN n)) := by
      intro n
      unfold closeD
      rw [if_pos rfl, if_neg h41]
      exact ⟨rfl, h.drewN n⟩
    have t41 : (((nx s.data.toList p).toNat : Int) != 41) = true := by
      have : (((nx s.data.toList p).toNat : Int) == 41) = false := byte_not (k := 41) (by decide) h41
      rw [bne, this]; rfl
    have HN := Lib.hid hnx; clear h h41 hnx
    unfold rp at HN ⊢
    go_enter Tryd.func66, Tryd.ntmps66
    go_wp2_with (go_at_call 47; refine HN.out.mono ?_; rintro e w' ⟨rfl, n, rfl⟩)
    go_ret
    exact HR.out _

/-- the bytes from p up to k may all stand in a word -/
def Wd (l : List UInt8) (p k : Nat) : Prop := p ≤ k ∧ k ≤ l.length ∧ ((l.drop p).take (k - p)).all okB = true
theorem Wd.start {l : List UInt8} {p : Nat} (h : p ≤ l.length) : Wd l p p := ⟨Nat.le_refl _, h, by simp⟩
theorem Wd.step {l : List UInt8} {p k : Nat} (h : Wd l p k) (hk : k < l.length) (ho : okB l[k] = true) : Wd l p (k + 1) := by
  refine ⟨by have := h.1; omega, hk, ?_⟩
  rw [take_at l p k h.1 hk, List.all_append, h.2.2]
  simp [ho]
theorem takeWhile_take {f : UInt8 → Bool} : ∀ (l : List UInt8) (n : Nat), n ≤ l.length → (l.take n).all f = true → (∀ h : n < l.length, f l[n] = false) → l.takeWhile f = l.take n
  | [], n, _, _, _ => by simp
  | c :: r, 0, _, _, h => by
    have : f c = false := h (by simp)
    simp [this]
  | c :: r, n + 1, hn, ha, h => by
    simp only [List.take_succ_cons, List.all_cons, Bool.and_eq_true] at ha
    rw [List.takeWhile_cons_of_pos ha.1, List.take_succ_cons, takeWhile_take r n (by simpa using hn) ha.2 (fun hl => h (Nat.succ_lt_succ hl))]
theorem Wd.stop {l : List UInt8} {p k : Nat} (h : Wd l p k) (hs : k = l.length ∨ ∃ hk : k < l.length, okB l[k] = false) : wordP l p = (l.drop p).take (k - p) := by
  have h1 := h.1; have h2 := h.2.1
  refine takeWhile_take _ _ (by rw [List.length_drop]; omega) h.2.2 (fun hl => ?_)
  rw [List.length_drop] at hl
  rw [List.getElem_drop]
  rcases hs with e | ⟨hk, hf⟩
  · omega
  · rw [← hf]; congr 2; omega

theorem word_any {w0 wa w : World} {g : Nat} {s : ByteArray} {p : Nat} {cs : List CM} (h : St w0 wa g s p cs w) (hp : p ≤ s.size) (hs : s.size ≤ 600) :
    Calls Tryd.prog 57 #[rp g] w fun e w' => e = .returned (bstr (wordP s.data.toList p)) ∧ ∃ n, w' = w.drewN n := by
  have hl : s.data.toList.length = s.size := (Lib.size_eq s).symm
  obtain ⟨v, ⟨c0, c1, c2, f1, f2⟩, hbox, hown⟩ := h.at_
  clear hbox hown h
  have hfin : ∀ k, Wd s.data.toList p k → (k = s.size ∨ ∃ hk : k < s.size, okB s[k] = false) → Ending.returned (.string (s.extract p k)) = .returned (bstr (wordP s.data.toList p)) := by
    intro k hw hk
    rw [hw.stop (hk.imp (fun e => by omega) (fun ⟨h1, h2⟩ => ⟨by omega, by rw [at_list s k h1]; exact h2⟩))]
    unfold bstr
    congr 2
    apply ByteArray.ext
    apply Array.toList_inj.1
    rw [Lib.extract_data]
  have hstep : ∀ k (hk : k < s.size), Wd s.data.toList p k → okB s[k] = true → Wd s.data.toList p (k + 1) := by
    intro k hk hw ho
    exact hw.step (by omega) (by rw [at_list s k hk]; exact ho)
  have HF := Lib.hid hfin; have HS := Lib.hid hstep; clear hfin hstep
  have HW := Lib.hid (Wd.start (l := s.data.toList) (p := p) (by omega)); clear hl
  unfold rp
  go_enter Tryd.func57, Tryd.ntmps57
  go_wp2
  go_loop [3] (fun i => ∃ k : Nat, p ≤ k ∧ k ≤ s.size ∧ Hid (Wd s.data.toList p k) ∧ i = .int .i64 k) (fun i => s.size - (intOf i).toNat)
  case atStart => exact ⟨p, Nat.le_refl _, hp, HW, rfl⟩
  case round =>
    obtain ⟨k, hpk, hk, HK, rfl⟩ := hrel
    by_cases hlt : k < s.size
    · cases ho : okB s[k]
      · have HE := Lib.hid (HF.out k HK.out (Or.inr ⟨hlt, ho⟩))
        go_wp2_with (go_at_call 68; refine (exSign_any _ _).mono ?_; rintro e w' ⟨rfl, rfl⟩)
        go_quiet (fail)
        go_wp2
        go_ret
        exact ⟨HE.out, _, rfl⟩
      · have HE := Lib.hid (HS.out k hlt HK.out ho)
        go_wp2_with (go_at_call 68; refine (exSign_any _ _).mono ?_; rintro e w' ⟨rfl, rfl⟩)
        go_round
        case rel => exact ⟨k + 1, by omega, hlt, HE, by go_num⟩
        case measure => simp [intOf]; omega
    · have HE := Lib.hid (HF.out k HK.out (Or.inl (by omega)))
      go_wp2_with (go_at_call 68; refine (exSign_any _ _).mono ?_; rintro e w' ⟨rfl, rfl⟩)
      go_quiet (fail)
      go_wp2
      go_ret
      exact ⟨HE.out, _, rfl⟩
end Go.Proofs.YtfgocdeaanalgaaDoor
