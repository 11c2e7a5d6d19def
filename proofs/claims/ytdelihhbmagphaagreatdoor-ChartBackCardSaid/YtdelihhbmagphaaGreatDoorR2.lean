/- Own texts, joined: N2, Nb, N3, N4, N5, Ea. -/
import Derived.Test.YtdelihhbmagphaaGreatDoorR1
namespace Go.Proofs.YtdelihhbmagphaaGreatDoor
open Go.RowKit
def nameB (l : List UInt8) : Bool := match l with | [] => false | c :: r => decide (r.length < 12) && isLB c && r.all okB && !takenB l
theorem ret_bool {a b : Bool} (h : a = b) : Ending.returned (.bool a) = .returned (.bool b) := by rw [h]
theorem at_list (s : ByteArray) (k : Nat) (_h : k < s.size) (h' : k < s.data.toList.length) : s.data.toList[k] = s[k] := by simp; rfl
theorem byte_is {c : UInt8} {k : Nat} (hk : k < 256) (h : c = UInt8.ofNat k) : ((c.toNat : Int) == (k : Nat)) = true := by
 rw [h, UInt8.toNat_ofNat', Nat.mod_eq_of_lt (show k < 2 ^ 8 from hk)]; exact beq_self_eq_true _
theorem byte_not {c : UInt8} {k : Nat} (hk : k < 256) (h : c ≠ UInt8.ofNat k) : ((c.toNat : Int) == (k : Nat)) = false := by
 apply beq_eq_false_iff_ne.2
 intro e
 apply h
 apply UInt8.toNat_inj.1
 rw [UInt8.toNat_ofNat', Nat.mod_eq_of_lt (show k < 2 ^ 8 from hk)]; omega
theorem nameB_end {l : List UInt8} {c : UInt8} {r : List UInt8} (e : l = c :: r) (h1 : isLB c = true) (h2 : r.length < 12) (h3 : r.all okB = true) : nameB l = !takenB l := by
 subst e; simp [nameB, h1, h2, h3]
theorem nameB_long {l : List UInt8} (h : 12 < l.length) : nameB l = false := by
 cases l with
 | nil => rfl
 | cons c r =>
  have : ¬ r.length < 12 := by simp at h; omega
  simp [nameB, this]
theorem nameB_first {l : List UInt8} (h : ∀ h0 : 0 < l.length, isLB l[0] = false) : nameB l = false := by
 cases l with
 | nil => rfl
 | cons c r =>
  have : isLB c = false := h (by simp)
  simp [nameB, this]
theorem nameB_bad {l : List UInt8} {k : Nat} (hk : k + 1 < l.length) (h : okB l[k + 1] = false) : nameB l = false := by
 cases l with
 | nil => rfl
 | cons c r =>
  have : r.all okB = false := by
   rw [List.all_eq_false]
   simp only [List.getElem_cons_succ] at h
   simp only [List.length_cons] at hk
   exact ⟨r[k]'(by omega), List.getElem_mem _, by rw [h]; decide⟩
  simp [nameB, this]
def Oks (l : List UInt8) (k : Nat) : Prop := ((l.drop 1).take k).all okB = true
theorem Oks.zero (l : List UInt8) : Oks l 0 := by simp [Oks]
theorem Oks.step {l : List UInt8} {k : Nat} (h : Oks l k) (hk : k + 1 < l.length) (ho : okB l[k + 1] = true) : Oks l (k + 1) := by
 unfold Oks at *
 have e : (l.drop 1).take (k + 1) = (l.drop 1).take k ++ [l[k + 1]] := by
  rw [List.take_succ_eq_append_getElem (by simp; omega)]
  simp
 rw [e, List.all_append, h]
 simp [ho]
theorem Oks.all {l : List UInt8} {k : Nat} (h : Oks l k) (hk : k + 1 = l.length) : ∃ c r, l = c :: r ∧ r.all okB = true := by
 cases l with
 | nil => simp at hk
 | cons c r =>
  refine ⟨c, r, rfl, ?_⟩
  unfold Oks at h
  simpa [List.take_of_length_le (show r.length ≤ k by simp at hk; omega)] using h
def NmAt (s : ByteArray) (k : Nat) (a : Act) : Prop := ∃ u1 u4 u5 u6 u7 u8 u9 u10 u11 u12 u13 u14 u15 u16 u17 u18 u19 u20 u21 u22 u23 u24 u25 u26 u27 u28 u29 u30 u31 u32 u33 u34 u35 u36 u37 u38 u39 u40 u41 u42 : Value,  a = { tmps := #[.string s, u1, .bool false, .int .i64 k, u4, u5, u6, u7, u8, u9, u10, u11, u12, u13, u14, u15, u16, u17, u18, u19, u20, u21, u22, u23, u24, u25, u26, u27, u28, u29, u30, u31, u32, u33, u34, u35, u36, u37, u38, u39, u40, u41, u42], defers := [] }
def kOf (a : Act) (i : Nat) : Nat := match a.tmps.getD i undef with | .int _ n => n.toNat | _ => 0
theorem name_no (s : ByteArray) (w : World) (h : s.data.toList = [] ∨ 12 < s.size ∨ ∃ h0 : 0 < s.size, isLB s[0] = false) :
  Calls Tryz.prog 82 #[.string s] w fun e w' => e = .returned (.bool false) ∧ w = w' := by
 by_cases h1 : s.data.toList = []
 ·have hne : s.toList.isEmpty = true := by rw [Lib.toList_data, h1]; rfl
  clear h h1
  go_enter Tryz.func82, Tryz.ntmps82
  go_wp2
  go_step3
  go_wp2
  rw [Exit.noGoto_ret]
  go_ret
  exact ⟨rfl, rfl⟩
 ·have hne : s.toList.isEmpty = false := by
   rw [Lib.toList_data]; simpa using h1
  by_cases h2 : 12 < s.size
  ·clear h h1
   have h2' : (12 : Int) < s.size := by omega
   go_enter Tryz.func82, Tryz.ntmps82
   go_wp2
   go_step3
   go_wp2
   rw [Exit.noGoto_ret]
   go_ret
   exact ⟨rfl, rfl⟩
  ·obtain ⟨h0, h3⟩ := h.resolve_left h1 |>.resolve_left h2
   clear h h1
   go_enter Tryz.func82, Tryz.ntmps82
   go_wp2
   go_step3
   go_wp2_with (go_at_call 115; refine (isLetter_any _ _).mono ?_; rintro e w' ⟨rfl, rfl⟩)
   rw [Exit.noGoto_ret]
   go_ret
   exact ⟨rfl, rfl⟩
theorem name_go (s : ByteArray) (w : World) (h1 : 0 < s.size) (h2 : ¬ 12 < s.size) (h3 : isLB s[0] = true) :
  Calls Tryz.prog 82 #[.string s] w fun e w' => e = .returned (.bool (nameB s.data.toList)) ∧ w = w' := by
 have hl : s.data.toList.length = s.size := (Lib.size_eq s).symm
 have hne : s.toList.isEmpty = false := by
  rw [Lib.toList_data]
  cases h : s.data.toList with
  | nil => rw [h] at hl; simp at hl; omega
  | cons a r => rfl
 have hend : ∀ k, Oks s.data.toList k → k + 1 = s.size → nameB s.data.toList = !takenB s.data.toList := by
  intro k ho hk
  obtain ⟨c, r, e, hr⟩ := ho.all (by omega)
  have h0 : isLB s.data.toList[0] = true := by rw [at_list s 0 h1]; exact h3
  refine nameB_end e ?_ ?_ hr
  ·simp only [e, List.getElem_cons_zero] at h0; exact h0
  ·rw [e] at hl; simp at hl; omega
 have hbad : ∀ k (hk : k + 1 < s.size), okB s[k + 1] = false → nameB s.data.toList = false := by
  intro k hk ho
  exact nameB_bad (k := k) (by omega) (by rw [at_list s _ hk]; exact ho)
 have hstep : ∀ k (hk : k + 1 < s.size), okB s[k + 1] = true → Oks s.data.toList k → Oks s.data.toList (k + 1) := by
  intro k hk ho h
  exact h.step (by omega) (by rw [at_list s _ hk]; exact ho)
 have HE := Lib.hid hend; have HB := Lib.hid hbad; have HS := Lib.hid hstep
 clear hend hbad hstep hl
 go_enter Tryz.func82, Tryz.ntmps82
 go_wp2
 refine wp_scope_labels (fun l a w' => w = w' ∧ l = 0 ∧ ∃ k, k < s.size ∧ Oks s.data.toList k ∧ NmAt s k a) (fun _ a _ => s.size - kOf a 3) ?_ ?_
 ·rintro l a w' ⟨rfl, rfl, k, hk, HO, u1, u4, u5, u6, u7, u8, u9, u10, u11, u12, u13, u14, u15, u16, u17, u18, u19, u20, u21, u22, u23, u24, u25, u26, u27, u28, u29, u30, u31, u32, u33, u34, u35, u36, u37, u38, u39, u40, u41, u42, rfl⟩
  refine ⟨_, rfl, ?_⟩
  intro H
  clear H
  by_cases he : k + 1 = s.size
  ·have he' : (k : Int) + 1 = s.size := by omega
   have HR := Lib.hid (HE.out k HO he)
   clear he
   go_wp2_with (go_at_call 116; refine (isTaken_any _ _).mono ?_; rintro e w' ⟨rfl, rfl⟩)
   go_ret
   exact ⟨ret_bool HR.out.symm, rfl⟩
  ·have hlt : k + 1 < s.size := by omega
   have he' : ¬ ((k : Int) + 1 = s.size) := by omega
   clear he
   cases hok : okB s[k + 1]
   ·have HR := Lib.hid (HB.out k hlt hok)
    unfold okB at hok
    simp only [Bool.or_eq_false_iff] at hok
    obtain ⟨⟨hb1, hb2⟩, hb3⟩ := hok
    have hb4 : ((s[k + 1].toNat : Int) == 95) = false := by
     apply beq_eq_false_iff_ne.2
     intro e
     apply (beq_eq_false_iff_ne.1 hb3)
     apply UInt8.toNat_inj.1
     show _ = 95
     omega
    clear hb3
    go_wp2_with (first | (go_at_call 115; refine (isLetter_any _ _).mono ?_; rintro e w' ⟨rfl, rfl⟩) | (go_at_call 108; refine (isDigit_any _ _).mono ?_; rintro e w' ⟨rfl, rfl⟩))
    go_ret
    exact ⟨ret_bool HR.out.symm, rfl⟩
   ·have HR := Lib.hid (HS.out k hlt hok HO)
    have h3 : isLB s[k + 1] = true ∨ (isLB s[k + 1] = false ∧ isD s[k + 1] = true) ∨ (isLB s[k + 1] = false ∧ isD s[k + 1] = false ∧ ((s[k + 1].toNat : Int) == 95) = true) := by
     unfold okB at hok
     cases hb1 : isLB s[k + 1]
     ·cases hb2 : isD s[k + 1]
      ·rw [hb1, hb2] at hok
       have := beq_iff_eq.1 hok
       exact Or.inr (Or.inr ⟨rfl, rfl, by rw [this]; rfl⟩)
      ·exact Or.inr (Or.inl ⟨rfl, rfl⟩)
     ·exact Or.inl rfl
    clear hok
    rcases h3 with hb1 | ⟨hb1, hb2⟩ | ⟨hb1, hb2, hb3⟩
    all_goals
     go_wp2_with (first | (go_at_call 115; refine (isLetter_any _ _).mono ?_; rintro e w' ⟨rfl, rfl⟩) | (go_at_call 108; refine (isDigit_any _ _).mono ?_; rintro e w' ⟨rfl, rfl⟩))
     go_step3
     refine ⟨⟨rfl, rfl, k + 1, hlt, HR.out, _, _, _, _, _, _, _, _, _, _, _, _, _, _, _, _, _, _, _, _, _, _, _, _, _, _, _, _, _, _, _, _, _, _, _, _, _, _, _, _, rfl⟩, ?_⟩
     simp [kOf]; omega
 ·intro H
  have HH := Lib.hid H; clear H
  go_wp2_with (go_at_call 115; refine (isLetter_any _ _).mono ?_; rintro e w' ⟨rfl, rfl⟩)
  go_step3
  refine walk_on (by assumption) (HH.out 0 _ _ _ rfl ⟨rfl, rfl, 0, h1, Oks.zero _, _, _, _, _, _, _, _, _, _, _, _, _, _, _, _, _, _, _, _, _, _, _, _, _, _, _, _, _, _, _, _, _, _, _, _, _, _, _, _, _, rfl⟩)
end Go.Proofs.YtdelihhbmagphaaGreatDoor
namespace Go.Proofs.YtdelihhbmagphaaGreatDoor
open Go.Lib
def fOf (l : List UInt8) : Nat := if l.head? = some 45 then 1 else 0
def okN (l : List UInt8) : Bool := !(l.drop (fOf l)).isEmpty && (l.drop (fOf l)).all isD && !((l.drop (fOf l)).head? == some 48 && decide (1 < l.length))
def valN (l : List UInt8) : Nat := valD 0 (l.drop (fOf l))
def numP (l : List UInt8) : Int × Int :=
 if okN l = true then (if 1099511627776 < valN l then (0, 5) else (if l.head? = some 45 then -(valN l : Int) else valN l, 0)) else (0, 1)
theorem numP_form {l : List UInt8} (h : okN l = false) : numP l = (0, 1) := by unfold numP; rw [if_neg (by rw [h]; decide)]
theorem numP_range {l : List UInt8} (h : okN l = true) (hv : 1099511627776 < valN l) : numP l = (0, 5) := by unfold numP; rw [if_pos h, if_pos hv]
theorem numP_neg {l : List UInt8} (h : okN l = true) (hv : ¬ 1099511627776 < valN l) (h45 : l.head? = some 45) : numP l = (-(valN l : Int), 0) := by unfold numP; rw [if_pos h, if_neg hv, if_pos h45]
theorem numP_pos {l : List UInt8} (h : okN l = true) (hv : ¬ 1099511627776 < valN l) (h45 : l.head? ≠ some 45) : numP l = ((valN l : Int), 0) := by unfold numP; rw [if_pos h, if_neg hv, if_neg h45]
structure Nd (l : List UInt8) (f j v : Nat) : Prop where
 le : f ≤ j
 len : j ≤ l.length
 digs : ((l.drop f).take (j - f)).all isD = true
 val : v = valD 0 ((l.drop f).take (j - f))
theorem Nd.start (l : List UInt8) (f : Nat) (h : f ≤ l.length) : Nd l f f 0 := ⟨Nat.le_refl _, h, by simp, by simp [valD_nil]⟩
theorem take_at (l : List UInt8) (f j : Nat) (hf : f ≤ j) (hj : j < l.length) : (l.drop f).take (j + 1 - f) = (l.drop f).take (j - f) ++ [l[j]] := by
 rw [show j + 1 - f = (j - f) + 1 by omega, List.take_succ_eq_append_getElem (by rw [List.length_drop]; omega)]
 congr 2
 rw [List.getElem_drop]
 congr 1; omega
theorem Nd.step {l : List UInt8} {f j v : Nat} (h : Nd l f j v) (hj : j < l.length) (hd : isD l[j] = true) : Nd l f (j + 1) (10 * v + digv l[j]) := by
 have e := take_at l f j h.le hj
 refine ⟨by have := h.le; omega, hj, ?_, ?_⟩
 ·rw [e, List.all_append, h.digs]; simp [hd]
 ·rw [e, valD_append, ← h.val, valD_cons, valD_nil]
theorem Nd.full {l : List UInt8} {f j v : Nat} (h : Nd l f j v) (hj : j = l.length) : (l.drop f).all isD = true ∧ v = valD 0 (l.drop f) := by
 have e : (l.drop f).take (j - f) = l.drop f := List.take_of_length_le (by rw [List.length_drop]; omega)
 have h1 := h.digs; have h2 := h.val
 rw [e] at h1 h2
 exact ⟨h1, h2⟩
theorem okN_empty {l : List UInt8} (h : l.length ≤ fOf l) : okN l = false := by
 unfold okN; rw [List.drop_of_length_le h]; rfl
theorem okN_bad {l : List UInt8} {j : Nat} (hf : fOf l ≤ j) (hj : j < l.length) (hd : isD l[j] = false) : okN l = false := by
 have h1 : (l.drop (fOf l)).all isD = false := by
  rw [List.all_eq_false]
  refine ⟨l[j], ?_, by rw [hd]; decide⟩
  rw [List.mem_iff_getElem]
  refine ⟨j - fOf l, by rw [List.length_drop]; omega, ?_⟩
  rw [List.getElem_drop]
  congr 1; omega
 unfold okN; rw [h1]; simp
theorem okN_nought {l : List UInt8} (h : (l.drop (fOf l)).head? = some 48) (h1 : 1 < l.length) : okN l = false := by
 unfold okN; rw [h]; simp [h1]
theorem okN_all {l : List UInt8} {v : Nat} (h : Nd l (fOf l) l.length v) (hne : fOf l < l.length) (h48 : (l.drop (fOf l)).head? ≠ some 48 ∨ l.length = 1) : okN l = true ∧ valN l = v := by
 obtain ⟨h1, h2⟩ := h.full rfl
 refine ⟨?_, h2.symm⟩
 have h3 : (l.drop (fOf l)).isEmpty = false := by
  rw [List.isEmpty_eq_false_iff]
  intro e
  have := congrArg List.length e
  rw [List.length_drop] at this
  simp at this; omega
 unfold okN; rw [h1, h3]
 rcases h48 with h | h
 ·rw [beq_eq_false_iff_ne.2 h]; rfl
 ·simp [h]
theorem numP_zero : numP [48] = (0, 0) := by decide +kernel
theorem one_zero {l : List UInt8} (h1 : l.length = 1) (h : l.head? = some 48) : l = [48] := by
 match l, h1 with
 | [c], _ => simp at h; rw [h]
end Go.Proofs.YtdelihhbmagphaaGreatDoor
namespace Go.Proofs.YtdelihhbmagphaaGreatDoor
open Go.RowKit
def DAt (s : ByteArray) (b : Bool) (j : Nat) (n : Int) (a : Act) : Prop := ∃ u1 u2 u3 u7 u8 u9 u10 u11 u12 u13 u14 u15 u16 u17 u18 u19 u20 u21 u22 u23 u24 u25 u26 u27 u28 u29 u30 u31 u32 u33 u34 u35 u36 u37 u38 u39 u40 u41 u42 u43 u44 u45 u46 u47 u48 u49 u50 u51 u52 u53 u54 u55 u56 u57 u58 u59 u60 u61 u62 u63 : Value,  a = { tmps := #[.string s, u1, u2, u3, .int .i64 n, .int .i64 j, .bool b, u7, u8, u9, u10, u11, u12, u13, u14, u15, u16, u17, u18, u19, u20, u21, u22, u23, u24, u25, u26, u27, u28, u29, u30, u31, u32, u33, u34, u35, u36, u37, u38, u39, u40, u41, u42, u43, u44, u45, u46, u47, u48, u49, u50, u51, u52, u53, u54, u55, u56, u57, u58, u59, u60, u61, u62, u63], defers := [] }
def OAt (s : ByteArray) (a : Act) : Prop := ∃ u1 u2 u3 u4 u5 u6 u7 u8 u9 u10 u11 u12 u13 u14 u15 u16 u17 u18 u19 u20 u21 u22 u23 u24 u25 u26 u27 u28 u29 u30 u31 u32 u33 u34 u35 u36 u37 u38 u39 u40 u41 u42 u43 u44 u45 u46 u47 u48 u49 u50 u51 u52 u53 u54 u55 u56 u57 u58 u59 u60 u61 u62 u63 : Value,  a = { tmps := #[.string s, u1, u2, u3, u4, u5, u6, u7, u8, u9, u10, u11, u12, u13, u14, u15, u16, u17, u18, u19, u20, u21, u22, u23, u24, u25, u26, u27, u28, u29, u30, u31, u32, u33, u34, u35, u36, u37, u38, u39, u40, u41, u42, u43, u44, u45, u46, u47, u48, u49, u50, u51, u52, u53, u54, u55, u56, u57, u58, u59, u60, u61, u62, u63], defers := [] }
structure Dig (l : List UInt8) (b : Bool) (j : Nat) (n : Int) : Prop where
 ex : ∃ v : Nat, Nd l (fOf l) j v ∧ n = min (v : Int) 1099511627777
 head : b = true ↔ l.head? = some 45
 lt : j = fOf l ∨ j < l.length
 nz : (l.drop (fOf l)).head? ≠ some 48
 hj : j ≤ l.length
def NumJ (s : ByteArray) (w : World) (l : Nat) (a : Act) (w' : World) : Prop :=
 w = w' ∧ ((l = 2 ∧ ∃ b j n, Dig s.data.toList b j n ∧ DAt s b j n a) ∨
  (l = 0 ∧ numP s.data.toList = (0, if s.size = 1 then 0 else 1) ∧ OAt s a) ∨ (l = 1 ∧ numP s.data.toList = (0, 1) ∧ OAt s a))
def NumM (s : ByteArray) (l : Nat) (a : Act) (_ : World) : Nat := if l = 2 then s.size - kOf a 5 + 2 else if l = 0 then 1 else 0
theorem numM_one {s : ByteArray} {a a' : Act} {w w' : World} : NumM s 1 a w < NumM s 2 a' w' := by simp [NumM]
theorem numM_zero {s : ByteArray} {a a' : Act} {w w' : World} : NumM s 1 a w < NumM s 0 a' w' := by simp [NumM]
theorem numM_step {s : ByteArray} {a a' : Act} {w w' : World} {j : Nat} (h : kOf a 5 = j + 1) (h' : kOf a' 5 = j) (hj : j < s.size) : NumM s 2 a w < NumM s 2 a' w' := by
 simp only [NumM, h, h', if_true]; omega
theorem dig_step {l : List UInt8} {b : Bool} {j : Nat} {n n' : Int} {c : UInt8} {z : Nat} (h : Dig l b j n) (hj : j < l.length) (hc : l[j] = c) (hl : l.length = z) (hd : isD c = true)
  (hn : (n' = n * 10 + ((c.toNat : Int) - 48) ∧ n' ≤ 1099511627777) ∨ (n' = 1099511627777 ∧ 1099511627777 ≤ n * 10 + ((c.toNat : Int) - 48))) :
  (j + 1 < z → Dig l b (j + 1) n') ∧ (j + 1 = z → 1099511627776 < n' → numP l = (0, 5)) ∧ (j + 1 = z → ¬ 1099511627776 < n' → numP l = (bif b then -n' else n', 0)) := by
 obtain ⟨v, hv, rfl⟩ := h.ex
 have hb := isD_iff.1 hd
 have hs := hv.step hj (by rw [hc]; exact hd)
 rw [hc] at hs
 have hdv : (digv c : Int) = (c.toNat : Int) - 48 := by unfold digv; omega
 have hn' : n' = min ((10 * v + digv c : Nat) : Int) 1099511627777 := by
  have : ((10 * v + digv c : Nat) : Int) = 10 * (v : Int) + ((c.toNat : Int) - 48) := by rw [← hdv]; simp
  rw [this]
  clear hs hdv
  omega
 have hf : fOf l < l.length := by have := hv.le; omega
 refine ⟨fun hz => ⟨⟨_, hs, hn'⟩, h.head, Or.inr (by omega), h.nz, by omega⟩, fun hz hr => ?_, fun hz hr => ?_⟩
 ·have e : j + 1 = l.length := by omega
  rw [e] at hs
  obtain ⟨h1, h2⟩ := okN_all hs hf (Or.inl h.nz)
  exact numP_range h1 (by rw [h2]; omega)
 ·have e : j + 1 = l.length := by omega
  rw [e] at hs
  obtain ⟨h1, h2⟩ := okN_all hs hf (Or.inl h.nz)
  have hnv : n' = (valN l : Int) := by rw [h2]; omega
  cases b
  ·rw [numP_pos h1 (by omega) (fun e => by have := h.head.2 e; cases this), hnv]; rfl
  ·rw [numP_neg h1 (by omega) (h.head.1 rfl), hnv]; rfl
theorem dig_start {l : List UInt8} {b : Bool} {j : Nat} (hb : b = true ↔ l.head? = some 45) (hj : fOf l = j) (hle : j ≤ l.length) (nz : (l.drop j).head? ≠ some 48) : Dig l b j 0 := by
 subst hj
 exact ⟨⟨0, Nd.start _ _ hle, rfl⟩, hb, Or.inl rfl, nz, hle⟩
theorem head_at (s : ByteArray) (h : 0 < s.size) : s.data.toList.head? = some s[0] := by
 rw [List.head?_eq_getElem?, List.getElem?_eq_getElem (by rw [← Lib.size_eq]; exact h)]
 simp; rfl
theorem drop_head_at (s : ByteArray) (k : Nat) (h : k < s.size) : (s.data.toList.drop k).head? = some s[k] := by
 rw [List.head?_drop, List.getElem?_eq_getElem (by rw [← Lib.size_eq]; exact h)]
 simp; rfl
def NumPost (l : List UInt8) (w : World) (e : Ending) (w' : World) : Prop := e = .returned (.tuple #[.int .i64 (numP l).1, .int .i64 (numP l).2]) ∧ w = w'
theorem NumPost.mk' {l : List UInt8} {w : World} {a b : Int} (h : numP l = (a, b)) : NumPost l w (.returned (.tuple #[.int .i64 a, .int .i64 b])) w := by
 unfold NumPost; rw [h]; exact ⟨rfl, rfl⟩
theorem number_any (s : ByteArray) (w : World) (hs : s.size ≤ 281474976710656) :
  Calls Tryz.prog 72 #[.string s] w (NumPost s.data.toList w) := by
 have hl : s.data.toList.length = s.size := (Lib.size_eq s).symm
 go_enter Tryz.func72, Tryz.ntmps72
 go_wp2
 refine wp_scope_labels (NumJ s w) (NumM s) ?_ ?_
 ·rintro l a w' ⟨rfl, ⟨rfl, b, j, n, hd, u1, u2, u3, u7, u8, u9, u10, u11, u12, u13, u14, u15, u16, u17, u18, u19, u20, u21, u22, u23, u24, u25, u26, u27, u28, u29, u30, u31, u32, u33, u34, u35, u36, u37, u38, u39, u40, u41, u42, u43, u44, u45, u46, u47, u48, u49, u50, u51, u52, u53, u54, u55, u56, u57, u58, u59, u60, u61, u62, u63, rfl⟩ | ⟨rfl, hn, u1, u2, u3, u4, u5, u6, u7, u8, u9, u10, u11, u12, u13, u14, u15, u16, u17, u18, u19, u20, u21, u22, u23, u24, u25, u26, u27, u28, u29, u30, u31, u32, u33, u34, u35, u36, u37, u38, u39, u40, u41, u42, u43, u44, u45, u46, u47, u48, u49, u50, u51, u52, u53, u54, u55, u56, u57, u58, u59, u60, u61, u62, u63, rfl⟩ | ⟨rfl, hn, u1, u2, u3, u4, u5, u6, u7, u8, u9, u10, u11, u12, u13, u14, u15, u16, u17, u18, u19, u20, u21, u22, u23, u24, u25, u26, u27, u28, u29, u30, u31, u32, u33, u34, u35, u36, u37, u38, u39, u40, u41, u42, u43, u44, u45, u46, u47, u48, u49, u50, u51, u52, u53, u54, u55, u56, u57, u58, u59, u60, u61, u62, u63, rfl⟩⟩
  ·refine ⟨_, rfl, ?_⟩
   intro H
   clear H
   have hjl := hd.hj
   rw [hl] at hjl
   have hn0 : 0 ≤ n ∧ n ≤ 1099511627777 := by obtain ⟨v, _, rfl⟩ := hd.ex; omega
   obtain ⟨hn0, hn1⟩ := hn0
   have HD := Lib.hid hd; clear hd
   by_cases hj : j = s.size
   ·have hj' : (j : Int) = s.size := by omega
    have hf : numP s.data.toList = (0, 1) := by
     refine numP_form (okN_empty ?_)
     rcases HD.out.lt with h | h <;> omega
    have HF := Lib.hid hf; clear hf hj
    go_wp2
    go_step3
    refine ⟨⟨rfl, Or.inr (Or.inr ⟨rfl, HF.out, _, _, _, _, _, _, _, _, _, _, _, _, _, _, _, _, _, _, _, _, _, _, _, _, _, _, _, _, _, _, _, _, _, _, _, _, _, _, _, _, _, _, _, _, _, _, _, _, _, _, _, _, _, _, _, _, _, _, _, _, _, _, _, rfl⟩)⟩, numM_one⟩
   ·have hlt : j < s.size := by omega
    have hj' : ¬ (j : Int) = s.size := by omega
    clear hj
    have hge : s.data.toList[j]'(by omega) = s[j] := at_list s j hlt _
    cases hdg : isD s[j]
    ·have hf : numP s.data.toList = (0, 1) := by
      refine numP_form (okN_bad (j := j) ?_ (by omega) (by rw [hge]; exact hdg))
      obtain ⟨v, h, _⟩ := HD.out.ex
      exact h.le
     have HF := Lib.hid hf; clear hf hge
     go_wp2_with (go_at_call 108; refine (isDigit_any _ _).mono ?_; rintro e w' ⟨rfl, rfl⟩)
     go_step3
     refine ⟨⟨rfl, Or.inr (Or.inr ⟨rfl, HF.out, _, _, _, _, _, _, _, _, _, _, _, _, _, _, _, _, _, _, _, _, _, _, _, _, _, _, _, _, _, _, _, _, _, _, _, _, _, _, _, _, _, _, _, _, _, _, _, _, _, _, _, _, _, _, _, _, _, _, _, _, _, _, _, rfl⟩)⟩, numM_one⟩
    ·have hb := isD_iff.1 hdg
     have hb1 : (48 : Int) ≤ s[j].toNat := by omega
     have hb2 : (s[j].toNat : Int) ≤ 57 := by omega
     have key := fun n' h => dig_step (n' := n') HD.out (by omega) hge hl hdg h
     have KEY := Lib.hid key; clear key hge hb
     cases b
     all_goals
      go_wp2_with (go_at_call 108; refine (isDigit_any _ _).mono ?_; rintro e w' ⟨rfl, rfl⟩)
      all_goals first
       | (go_step3; exact ⟨⟨rfl, Or.inl ⟨rfl, _, j + 1, _, (KEY.out _ (by omega)).1 (by omega), _, _, _, _, _, _, _, _, _, _, _, _, _, _, _, _, _, _, _, _, _, _, _, _, _, _, _, _, _, _, _, _, _, _, _, _, _, _, _, _, _, _, _, _, _, _, _, _, _, _, _, _, _, _, _, _, _, _, _, _, rfl⟩⟩, numM_step rfl rfl hlt⟩)
       | (go_ret2; exact NumPost.mk' ((KEY.out 1099511627777 (by omega)).2.1 (by omega) (by omega)))
       | (go_ret2; exact NumPost.mk' ((KEY.out _ (by omega)).2.2 (by omega) (by omega)))
  ·refine ⟨_, rfl, ?_⟩
   intro H
   have HH := Lib.hid H; clear H
   by_cases h1 : s.size = 1
   ·have h1' : (s.size : Int) = 1 := by omega
    rw [if_pos h1] at hn
    have HN := Lib.hid hn; clear hn h1
    go_wp2
    go_ret2
    exact NumPost.mk' HN.out
   ·have h1' : ¬ (s.size : Int) = 1 := by omega
    rw [if_neg h1] at hn
    have HN := Lib.hid hn; clear hn h1
    go_wp2
    go_step3
    refine walk_on (by assumption) (HH.out 1 _ _ _ rfl ⟨rfl, Or.inr (Or.inr ⟨rfl, HN.out, _, _, _, _, _, _, _, _, _, _, _, _, _, _, _, _, _, _, _, _, _, _, _, _, _, _, _, _, _, _, _, _, _, _, _, _, _, _, _, _, _, _, _, _, _, _, _, _, _, _, _, _, _, _, _, _, _, _, _, _, _, _, _, rfl⟩)⟩ numM_zero)
  ·refine ⟨_, rfl, ?_⟩
   intro H
   clear H
   have HN := Lib.hid hn; clear hn
   go_wp2
   go_ret2
   exact NumPost.mk' HN.out
 ·intro H
  have HH := Lib.hid H; clear H
  by_cases h0 : 0 < s.size
  ·have hh := head_at s h0
   by_cases h45 : s[0] = 45
   ·have t45 : ((s[0].toNat : Int) == 45) = true := byte_is (k := 45) (by decide) h45
    have hf : fOf s.data.toList = 1 := by unfold fOf; rw [hh, h45]; rfl
    have hb : true = true ↔ s.data.toList.head? = some 45 := ⟨fun _ => by rw [hh, h45], fun _ => rfl⟩
    by_cases h1 : 1 < s.size
    ·have hd := drop_head_at s 1 h1
     by_cases h48 : s[1] = 48
     ·have t48 : ((s[1].toNat : Int) == 48) = true := byte_is (k := 48) (by decide) h48
      have hn : numP s.data.toList = (0, if s.size = 1 then 0 else 1) := by
       rw [if_neg (by omega)]
       exact numP_form (okN_nought (by rw [hf, hd, h48]) (by omega))
      have HN := Lib.hid hn
      clear hn hd h48 hf hb h45 hh
      go_wp2
      go_step3
      exact ⟨rfl, Or.inr (Or.inl ⟨rfl, HN.out, _, _, _, _, _, _, _, _, _, _, _, _, _, _, _, _, _, _, _, _, _, _, _, _, _, _, _, _, _, _, _, _, _, _, _, _, _, _, _, _, _, _, _, _, _, _, _, _, _, _, _, _, _, _, _, _, _, _, _, _, _, _, _, rfl⟩)⟩
     ·have t48 : ((s[1].toNat : Int) == 48) = false := byte_not (k := 48) (by decide) h48
      have hg : Dig s.data.toList true 1 0 := dig_start hb hf (by omega) (by rw [hd]; intro e; injection e with e; exact h48 e)
      clear hd h48 hf hb h45 hh
      go_wp2
      go_step3
      refine walk_on (by assumption) (HH.out 2 _ _ _ rfl ⟨rfl, Or.inl ⟨rfl, true, 1, 0, hg, _, _, _, _, _, _, _, _, _, _, _, _, _, _, _, _, _, _, _, _, _, _, _, _, _, _, _, _, _, _, _, _, _, _, _, _, _, _, _, _, _, _, _, _, _, _, _, _, _, _, _, _, _, _, _, _, _, _, _, _, rfl⟩⟩)
    ·have hg : Dig s.data.toList true 1 0 := dig_start hb hf (by omega) (by rw [List.drop_of_length_le (by omega)]; simp)
     clear hf hb h45 hh
     have h1' : (s.size : Int) = 1 := by omega
     clear h1
     go_wp2
     go_step3
     refine walk_on (by assumption) (HH.out 2 _ _ _ rfl ⟨rfl, Or.inl ⟨rfl, true, 1, 0, hg, _, _, _, _, _, _, _, _, _, _, _, _, _, _, _, _, _, _, _, _, _, _, _, _, _, _, _, _, _, _, _, _, _, _, _, _, _, _, _, _, _, _, _, _, _, _, _, _, _, _, _, _, _, _, _, _, _, _, _, _, rfl⟩⟩)
   ·have t45 : ((s[0].toNat : Int) == 45) = false := byte_not (k := 45) (by decide) h45
    have hne : s.data.toList.head? ≠ some 45 := by rw [hh]; intro e; injection e with e; exact h45 e
    have hf : fOf s.data.toList = 0 := by unfold fOf; rw [if_neg hne]
    have hb : false = true ↔ s.data.toList.head? = some 45 := ⟨fun h => (by cases h), fun h => absurd h hne⟩
    by_cases h48 : s[0] = 48
    ·have t48 : ((s[0].toNat : Int) == 48) = true := byte_is (k := 48) (by decide) h48
     have hn : numP s.data.toList = (0, if s.size = 1 then 0 else 1) := by
      by_cases h1 : s.size = 1
      ·rw [if_pos h1, one_zero (l := s.data.toList) (by omega) (by rw [hh, h48]), numP_zero]
      ·rw [if_neg h1]
       exact numP_form (okN_nought (by rw [hf, List.drop_zero, hh, h48]) (by omega))
     have HN := Lib.hid hn
     clear hn h48 hf hb h45 hh hne
     go_wp2
     go_step3
     exact ⟨rfl, Or.inr (Or.inl ⟨rfl, HN.out, _, _, _, _, _, _, _, _, _, _, _, _, _, _, _, _, _, _, _, _, _, _, _, _, _, _, _, _, _, _, _, _, _, _, _, _, _, _, _, _, _, _, _, _, _, _, _, _, _, _, _, _, _, _, _, _, _, _, _, _, _, _, _, rfl⟩)⟩
    ·have t48 : ((s[0].toNat : Int) == 48) = false := byte_not (k := 48) (by decide) h48
     have hg : Dig s.data.toList false 0 0 := dig_start hb hf (by omega) (by rw [List.drop_zero, hh]; intro e; injection e with e; exact h48 e)
     clear h48 hf hb h45 hh hne
     go_wp2
     go_step3
     refine walk_on (by assumption) (HH.out 2 _ _ _ rfl ⟨rfl, Or.inl ⟨rfl, false, 0, 0, hg, _, _, _, _, _, _, _, _, _, _, _, _, _, _, _, _, _, _, _, _, _, _, _, _, _, _, _, _, _, _, _, _, _, _, _, _, _, _, _, _, _, _, _, _, _, _, _, _, _, _, _, _, _, _, _, _, _, _, _, _, rfl⟩⟩)
  ·have hnil : s.data.toList = [] := List.eq_nil_of_length_eq_zero (by omega)
   have hg : Dig s.data.toList false 0 0 := dig_start (by rw [hnil]; simp) (by rw [hnil]; rfl) (by omega) (by rw [hnil]; simp)
   have h0' : (s.size : Int) = 0 := by omega
   clear hnil h0
   go_wp2
   go_step3
   refine walk_on (by assumption) (HH.out 2 _ _ _ rfl ⟨rfl, Or.inl ⟨rfl, false, 0, 0, hg, _, _, _, _, _, _, _, _, _, _, _, _, _, _, _, _, _, _, _, _, _, _, _, _, _, _, _, _, _, _, _, _, _, _, _, _, _, _, _, _, _, _, _, _, _, _, _, _, _, _, _, _, _, _, _, _, _, _, _, _, rfl⟩⟩)
end Go.Proofs.YtdelihhbmagphaaGreatDoor
namespace Go.Proofs.YtdelihhbmagphaaGreatDoor
open Go.RowKit
def intOf : Value → Int | .int _ q => q | _ => 0
end Go.Proofs.YtdelihhbmagphaaGreatDoor
namespace Go.Proofs.YtdelihhbmagphaaGreatDoor
open Go.RowKit
def Pn (l : List UInt8) (j : Nat) : Prop := j = 0 ∨ ((∃ h : 0 < l.length, isLB l[0] = true) ∧ Oks l (j - 1))
theorem Pn.first {l : List UInt8} (h : 0 < l.length) (hc : isLB l[0] = true) : Pn l (0 + 1) := Or.inr ⟨⟨h, hc⟩, Oks.zero _⟩
theorem okB_letter {c : UInt8} (h : isLB c = true) : okB c = true := by simp [okB, h]
theorem name_any (s : ByteArray) (w : World) :
  Calls Tryz.prog 82 #[.string s] w fun e w' => e = .returned (.bool (nameB s.data.toList)) ∧ w = w' := by
 have hl : s.data.toList.length = s.size := (Lib.size_eq s).symm
 by_cases h1 : 0 < s.size
 ·by_cases h2 : 12 < s.size
  ·rw [nameB_long (by omega)]; exact name_no s w (Or.inr (Or.inl h2))
  ·cases h3 : isLB s[0]
   ·rw [nameB_first (fun h0 => by rw [at_list s 0 h1]; exact h3)]; exact name_no s w (Or.inr (Or.inr ⟨h1, h3⟩))
   ·exact name_go s w h1 h2 h3
 ·have e : s.data.toList = [] := List.eq_nil_of_length_eq_zero (by omega)
  rw [e]; exact name_no s w (Or.inl e)
end Go.Proofs.YtdelihhbmagphaaGreatDoor
namespace Go.Proofs.YtdelihhbmagphaaGreatDoor
structure CM where
 op : Int
 a : Int
 nm : List UInt8
instance : DecidableEq CM := fun x y => decidable_of_iff (x.op = y.op ∧ x.a = y.a ∧ x.nm = y.nm) (by cases x; cases y; simp)
def opC (o : Int) : CM := ⟨o, 0, []⟩
def nx (s : List UInt8) (p : Nat) : UInt8 := (s[p]?).getD 0
def wordP (s : List UInt8) (p : Nat) : List UInt8 := (s.drop p).takeWhile okB
def numT (s : List UInt8) (p : Nat) : List UInt8 := if nx s p = 48 then [48] else (s.drop p).takeWhile isD
def opOf (c d : UInt8) : Int × Nat × Nat :=
 if c = 43 then (11, 1, 4) else if c = 45 then (12, 1, 4) else if c = 42 then (13, 1, 5) else if c = 47 then (14, 1, 5) else if c = 37 then (15, 1, 5)
 else if c = 61 then (16, 1, 3) else if c = 33 then (if d = 61 then (17, 2, 3) else (0, 0, 0)) else if c = 60 then (if d = 61 then (19, 2, 3) else (18, 1, 3))
 else if c = 62 then (if d = 61 then (21, 2, 3) else (20, 1, 3)) else if c = 38 then (22, 1, 2) else if c = 124 then (23, 1, 1) else (0, 0, 0)
def opAt (s : List UInt8) (p : Nat) : Int × Nat × Nat := opOf (nx s p) (nx s (p + 1))
abbrev Rs := Bool × Nat × List CM
def closeD (s : List UInt8) (r : Rs) : Rs := if r.1 = true then (if nx s r.2.1 = 41 then (true, r.2.1 + 1, r.2.2) else (false, r.2.1, r.2.2)) else r
def addD (o : Int) (r : Rs) : Rs := if r.1 = true then (true, r.2.1, r.2.2 ++ [opC o]) else r
def stateD (s : List UInt8) (p : Nat) (cs : List CM) : Rs :=
 if nameB (wordP s (p + 3)) = true then
  closeD s (true, p + 3 + (wordP s (p + 3)).length, cs ++ [⟨6, 0, wordP s (p + 3)⟩])
 else (false, p + 3, cs)
def numD (s : List UInt8) (p : Nat) (cs : List CM) : Rs :=
 if (numP (numT s p)).2 ≠ 0 then (false, p, cs)
 else if nx s (p + (numT s p).length) = 105 then
  (if (numP (numT s p)).1 ≤ 1048576 then (true, p + (numT s p).length + 1, cs ++ [⟨2, (numP (numT s p)).1, []⟩]) else (false, p, cs))
 else (true, p + (numT s p).length, cs ++ [⟨1, (numP (numT s p)).1, []⟩])
inductive Q where
 | joins (k : Nat)
 | loop (k : Nat) (cmp : Bool)
 | ahead
def wTrue : List UInt8 := [116, 114, 117, 101]
def wFalse : List UInt8 := [102, 97, 108, 115, 101]
def wIn : List UInt8 := [105, 110]
def wRe : List UInt8 := [114, 101]
def wIm : List UInt8 := [105, 109]
def wordD (s : List UInt8) (p : Nat) (cs : List CM) (w : List UInt8) (inner : Rs) : Rs :=
 if w = wTrue then (true, p + 4, cs ++ [opC 3])
 else if w = wFalse then (true, p + 5, cs ++ [opC 4])
 else if nameB w = true then (true, p + w.length, cs ++ [⟨5, 0, w⟩])
 else if nx s (p + w.length) ≠ 40 then (false, p, cs)
 else if w = wIn then stateD s p cs
 else if w = wRe then addD 9 (closeD s inner)
 else if w = wIm then addD 10 (closeD s inner)
 else (false, p, cs)
def D (s : List UInt8) : Nat → Q → Nat → List CM → Rs
 | 0, _, _, cs => (false, s.length, cs)
 | n + 1, .joins k, p, cs =>
  if k = 6 then D s n .ahead p cs
  else if (D s n (.joins (k + 1)) p cs).1 = true then D s n (.loop k false) (D s n (.joins (k + 1)) p cs).2.1 (D s n (.joins (k + 1)) p cs).2.2
  else D s n (.joins (k + 1)) p cs
 | n + 1, .loop k cmp, p, cs =>
  if (opAt s p).2.2 ≠ k then (true, p, cs)
  else if cmp = true then (false, p, cs)
  else if (D s n (.joins (k + 1)) (p + (opAt s p).2.1) cs).1 = true then
   D s n (.loop k (k == 3)) (D s n (.joins (k + 1)) (p + (opAt s p).2.1) cs).2.1 ((D s n (.joins (k + 1)) (p + (opAt s p).2.1) cs).2.2 ++ [opC (opAt s p).1])
  else D s n (.joins (k + 1)) (p + (opAt s p).2.1) cs
 | n + 1, .ahead, p, cs =>
  if nx s p = 45 then addD 7 (D s n .ahead (p + 1) cs)
  else if nx s p = 33 then addD 8 (D s n .ahead (p + 1) cs)
  else if nx s p = 40 then closeD s (D s n (.joins 1) (p + 1) cs)
  else if isD (nx s p) = true then numD s p cs
  else wordD s p cs (wordP s p) (D s n (.joins 1) (p + 3) cs)
theorem D_joins (s : List UInt8) (n k p : Nat) (cs : List CM) : D s (n + 1) (.joins k) p cs =
  if k = 6 then D s n .ahead p cs
  else if (D s n (.joins (k + 1)) p cs).1 = true then D s n (.loop k false) (D s n (.joins (k + 1)) p cs).2.1 (D s n (.joins (k + 1)) p cs).2.2
  else D s n (.joins (k + 1)) p cs := rfl
theorem D_loop (s : List UInt8) (n k : Nat) (cmp : Bool) (p : Nat) (cs : List CM) : D s (n + 1) (.loop k cmp) p cs =
  if (opAt s p).2.2 ≠ k then (true, p, cs)
  else if cmp = true then (false, p, cs)
  else if (D s n (.joins (k + 1)) (p + (opAt s p).2.1) cs).1 = true then
   D s n (.loop k (k == 3)) (D s n (.joins (k + 1)) (p + (opAt s p).2.1) cs).2.1 ((D s n (.joins (k + 1)) (p + (opAt s p).2.1) cs).2.2 ++ [opC (opAt s p).1])
  else D s n (.joins (k + 1)) (p + (opAt s p).2.1) cs := rfl
theorem D_ahead (s : List UInt8) (n p : Nat) (cs : List CM) : D s (n + 1) .ahead p cs =
  if nx s p = 45 then addD 7 (D s n .ahead (p + 1) cs)
  else if nx s p = 33 then addD 8 (D s n .ahead (p + 1) cs)
  else if nx s p = 40 then closeD s (D s n (.joins 1) (p + 1) cs)
  else if isD (nx s p) = true then numD s p cs
  else wordD s p cs (wordP s p) (D s n (.joins 1) (p + 3) cs) := rfl
def need (s : List UInt8) (q : Q) (p : Nat) : Nat := (s.length - p) * 10 + match q with | .joins k => 9 - k | .loop _ _ => 1 | .ahead => 1
def parseP (s : List UInt8) : List CM × Nat × Int :=
 if 600 < s.length then ([], 0, 4)
 else if (D s (s.length * 10 + 8) (.joins 1) 0 []).1 = false ∨ (D s (s.length * 10 + 8) (.joins 1) 0 []).2.1 < s.length then ([], (D s (s.length * 10 + 8) (.joins 1) 0 []).2.1, 1)
 else if 32 < (D s (s.length * 10 + 8) (.joins 1) 0 []).2.2.length then ([], 0, 4)
 else ((D s (s.length * 10 + 8) (.joins 1) 0 []).2.2, 0, 0)
theorem nx_at {s : List UInt8} {p : Nat} (h : p < s.length) : nx s p = s[p] := by simp [nx, h]
theorem nx_end {s : List UInt8} {p : Nat} (h : s.length ≤ p) : nx s p = 0 := by simp [nx, h]
theorem nx_lt {s : List UInt8} {p : Nat} (h : nx s p ≠ 0) : p < s.length := by
 rcases Nat.lt_or_ge p s.length with h1 | h1
 ·exact h1
 ·exact absurd (nx_end h1) h
theorem opOf_some {c d : UInt8} (h : (opOf c d).2.2 ≠ 0) : c ≠ 0 ∧ 1 ≤ (opOf c d).2.1 ∧ (opOf c d).2.1 ≤ 2 ∧ ((opOf c d).2.1 = 2 → d ≠ 0) := by
 refine ⟨fun e => by subst e; exact h rfl, ?_⟩
 revert h
 unfold opOf
 repeat' split
 all_goals simp_all
theorem opAt_some {s : List UInt8} {p : Nat} (h : (opAt s p).2.2 ≠ 0) : 1 ≤ (opAt s p).2.1 ∧ p + (opAt s p).2.1 ≤ s.length := by
 obtain ⟨h1, h2, h3, h4⟩ := opOf_some h
 refine ⟨h2, ?_⟩
 have := nx_lt h1
 rcases Nat.lt_or_ge (opAt s p).2.1 2 with h5 | h5
 ·omega
 ·have := nx_lt (h4 (by unfold opAt at h5; omega)); unfold opAt at *; omega
theorem opOf_none {c d : UInt8} (h : (opOf c d).2.2 = 0) : opOf c d = (0, 0, 0) := by
 revert h
 unfold opOf
 repeat' split
 all_goals simp
theorem word_le (s : List UInt8) (p : Nat) (h : p ≤ s.length) : p + (wordP s p).length ≤ s.length := by
 have := (List.takeWhile_prefix okB (l := s.drop p)).length_le
 rw [List.length_drop] at this
 unfold wordP; omega
theorem num_le (s : List UInt8) (p : Nat) (h : p < s.length) : p + (numT s p).length ≤ s.length := by
 unfold numT
 split
 ·simp; omega
 ·have := (List.takeWhile_prefix isD (l := s.drop p)).length_le
  rw [List.length_drop] at this
  omega
theorem num_pos {s : List UInt8} {p : Nat} (h : p < s.length) (hd : isD (nx s p) = true) : 1 ≤ (numT s p).length := by
 unfold numT
 split
 ·simp
 ·rw [nx_at h] at hd
  rw [List.drop_eq_getElem_cons h, List.takeWhile_cons_of_pos hd]
  simp
structure Goes (s : List UInt8) (q : Q) (p : Nat) (r : Rs) : Prop where
 ge : p ≤ r.2.1
 le : r.2.1 ≤ s.length
 gt : r.1 = true → (match q with | .loop _ _ => True | _ => p < r.2.1)
theorem goes_close {s : List UInt8} {p : Nat} {r : Rs} (h1 : p < r.2.1) (h2 : r.2.1 ≤ s.length) : Goes s .ahead p (closeD s r) := by
 unfold closeD
 split
 ·split
  ·rename_i h
   have := nx_lt (s := s) (p := r.2.1) (by rw [h]; decide)
   exact ⟨by simp; omega, by simp; omega, fun _ => by simp; omega⟩
  ·exact ⟨by simp; omega, by simp; omega, fun h => by simp at h⟩
 ·rename_i h; exact ⟨by omega, h2, fun h' => absurd h' h⟩
theorem goes_add {s : List UInt8} {o : Int} {p p' : Nat} {r : Rs} (h : Goes s .ahead p' r) (hp : p ≤ p') : Goes s .ahead p (addD o r) := by
 have h1 := h.ge
 unfold addD
 split
 ·rename_i hr; have := h.gt hr; simp only at this; exact ⟨by simp; omega, h.le, fun _ => by simp; omega⟩
 ·rename_i hr; exact ⟨by omega, h.le, fun h' => absurd h' hr⟩
theorem goes_state {s : List UInt8} {p : Nat} {cs : List CM} (h : p + 3 ≤ s.length) : Goes s .ahead p (stateD s p cs) := by
 unfold stateD
 split
 ·exact goes_close (by simp; omega) (word_le s _ h)
 ·exact ⟨by simp, by simpa using h, fun h => by simp at h⟩
theorem goes_num {s : List UInt8} {p : Nat} {cs : List CM} (h : p < s.length) (hd : isD (nx s p) = true) : Goes s .ahead p (numD s p cs) := by
 have h1 := num_le s p h
 have h2 := num_pos h hd
 unfold numD
 split
 ·exact ⟨by simp, by simp; omega, fun h => by simp at h⟩
 ·split
  ·rename_i h105
   have := nx_lt (s := s) (p := p + (numT s p).length) (by rw [h105]; decide)
   split
   ·exact ⟨by simp; omega, by simp; omega, fun _ => by simp; omega⟩
   ·exact ⟨by simp, by simp; omega, fun h => by simp at h⟩
  ·exact ⟨by simp, by simpa using h1, fun _ => by simp; omega⟩
theorem goes_word {s : List UInt8} {p : Nat} {cs : List CM} {inner : Rs} (hp : p ≤ s.length) (hi : p + 3 ≤ s.length → p + 3 ≤ inner.2.1 ∧ inner.2.1 ≤ s.length) : Goes s .ahead p (wordD s p cs (wordP s p) inner) := by
 have hw := word_le s p hp
 unfold wordD
 split
 ·rename_i e; rw [e] at hw; simp [wTrue] at hw; exact ⟨by simp, by simpa using hw, fun _ => by simp⟩
 ·split
  ·rename_i e; rw [e] at hw; simp [wFalse] at hw; exact ⟨by simp, by simpa using hw, fun _ => by simp⟩
  ·split
   ·rename_i hn
    have : 0 < (wordP s p).length := by
     rcases Nat.eq_zero_or_pos (wordP s p).length with h0 | h0
     ·rw [List.eq_nil_of_length_eq_zero h0] at hn; simp [nameB] at hn
     ·exact h0
    exact ⟨by simp, by simpa using hw, fun _ => by simp; omega⟩
   ·have hf : Goes s .ahead p (false, p, cs) := ⟨by simp, by simpa using hp, fun h => by simp at h⟩
    split
    ·exact hf
    ·rename_i h40
     have h3 := nx_lt (s := s) (p := p + (wordP s p).length) (by rw [Decidable.not_not.1 h40]; decide)
     split
     ·rename_i e; rw [e] at h3; simp [wIn] at h3; exact goes_state (by omega)
     ·split
      ·rename_i e; rw [e] at h3; simp [wRe] at h3
       have := hi (by omega)
       exact goes_add (goes_close (p := p) (by omega) this.2) (Nat.le_refl _)
      ·split
       ·rename_i e; rw [e] at h3; simp [wIm] at h3
        have := hi (by omega)
        exact goes_add (goes_close (p := p) (by omega) this.2) (Nat.le_refl _)
       ·exact hf
theorem goes (s : List UInt8) : ∀ (n : Nat) (q : Q) (p : Nat) (cs : List CM), p ≤ s.length → Goes s q p (D s n q p cs) := by
 intro n
 induction n with
 | zero => intro q p cs hp; exact ⟨by simpa [D] using hp, by simp [D], fun h => by simp [D] at h⟩
 | succ n ih =>
  intro q p cs hp
  cases q with
  | joins k =>
   rw [D_joins]
   split
   ·exact ⟨(ih .ahead p cs hp).ge, (ih .ahead p cs hp).le, fun h => (ih .ahead p cs hp).gt h⟩
   ·have h1 := ih (.joins (k + 1)) p cs hp
    split
    ·rename_i hr
     have h2 := ih (.loop k false) _ (D s n (.joins (k + 1)) p cs).2.2 h1.le
     have h3 : p < (D s n (.joins (k + 1)) p cs).2.1 := h1.gt hr
     exact ⟨by have := h2.ge; omega, h2.le, fun _ => by have := h2.ge; show p < _; omega⟩
    ·rename_i hr; exact ⟨h1.ge, h1.le, fun h => absurd h hr⟩
  | loop k cmp =>
   rw [D_loop]
   split
   ·exact ⟨by simp, by simpa using hp, fun _ => trivial⟩
   ·split
    ·exact ⟨by simp, by simpa using hp, fun _ => trivial⟩
    ·rename_i hk _
     by_cases h0 : (opAt s p).2.2 = 0
     ·have hz : (opAt s p).2.1 = 0 := congrArg (·.2.1) (opOf_none h0)
      have h1 := ih (.joins (k + 1)) (p + (opAt s p).2.1) cs (by omega)
      split
      ·have h2 := ih (.loop k (k == 3)) _ ((D s n (.joins (k + 1)) (p + (opAt s p).2.1) cs).2.2 ++ [opC (opAt s p).1]) h1.le
       exact ⟨by have := h1.ge; have := h2.ge; omega, h2.le, fun _ => trivial⟩
      ·exact ⟨by have := h1.ge; omega, h1.le, fun _ => trivial⟩
     ·have ho := opAt_some h0
      have h1 := ih (.joins (k + 1)) (p + (opAt s p).2.1) cs ho.2
      split
      ·have h2 := ih (.loop k (k == 3)) _ ((D s n (.joins (k + 1)) (p + (opAt s p).2.1) cs).2.2 ++ [opC (opAt s p).1]) h1.le
       exact ⟨by have := h1.ge; have := h2.ge; omega, h2.le, fun _ => trivial⟩
      ·exact ⟨by have := h1.ge; omega, h1.le, fun _ => trivial⟩
  | ahead =>
   rw [D_ahead]
   split
   ·rename_i h
    have := nx_lt (s := s) (p := p) (by rw [h]; decide)
    exact goes_add (ih .ahead (p + 1) cs (by omega)) (by omega)
   ·split
    ·rename_i h
     have := nx_lt (s := s) (p := p) (by rw [h]; decide)
     exact goes_add (ih .ahead (p + 1) cs (by omega)) (by omega)
    ·split
     ·rename_i h
      have := nx_lt (s := s) (p := p) (by rw [h]; decide)
      have h1 := ih (.joins 1) (p + 1) cs (by omega)
      exact goes_close (by have := h1.ge; omega) h1.le
     ·split
      ·rename_i hd
       have := nx_lt (s := s) (p := p) (by intro e; rw [e] at hd; exact absurd hd (by decide))
       exact goes_num this hd
      ·exact goes_word hp (fun h3 => ⟨(ih (.joins 1) (p + 3) cs h3).ge, (ih (.joins 1) (p + 3) cs h3).le⟩)
end Go.Proofs.YtdelihhbmagphaaGreatDoor
