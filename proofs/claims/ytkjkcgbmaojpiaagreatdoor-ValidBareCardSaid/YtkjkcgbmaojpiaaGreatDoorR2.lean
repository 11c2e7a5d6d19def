/- Own texts, joined: Jm, Nm, N2, Nb, N3, N4, N5. -/
import Derived.Test.YtkjkcgbmaojpiaaGreatDoorR1
import Derived.Scope
import Derived.ScopeJumps
import Derived.WalkMore
import Derived.Test.YtkjkcgbmaojpiaaGreatDoorProg
import Derived.WalkKit
import Derived.WalkSpells
import Derived.WalkLawsBesides
import Derived.Lib.Hide
namespace Go.Proofs.YtkjkcgbmaojpiaaGreatDoor
open Go
def jumps (J : Nat → Act → World → Prop) (Q : Exit → Act → World → Prop) : Exit → Act → World → Prop
 | .goto l, a, w => J l a w
 | e, a, w => Q e a w
section
variable {P : Program} {a : Act} {w : World} {Q : Exit → Act → World → Prop} {J : Nat → Act → World → Prop}
@[go_sem] theorem jumps_normal : jumps J Q .normal a w = Q .normal a w := rfl
@[go_sem] theorem jumps_exit (id : Nat) : jumps J Q (.exit id) a w = Q (.exit id) a w := rfl
@[go_sem] theorem jumps_ret : jumps J Q .ret a w = Q .ret a w := rfl
@[go_sem] theorem jumps_panic (ch : List PanicEntry) : jumps J Q (.panic ch) a w = Q (.panic ch) a w := rfl
theorem walk_on {K : Act → World → Prop} {y : Code} (hK : ∀ a w, y.wp P Q a w → K a w) (h : y.wp P Q a w) : Exit.then K Q .normal a w := hK _ _ h
theorem wp_rest {rest : Code} (h : rest.wp P Q a w) : (Code.seq .skip rest).wp P Q a w := wp_seq (wp_skip h)
theorem wp_scope_labels {c : Code} (J : Nat → Act → World → Prop) (m : Nat → Act → World → Nat)
  (pass : ∀ l a w, J l a w → ∃ rest, findLabel c l = some (.seq .skip rest) ∧
   ((∀ l' a' w' rest', findLabel c l' = some (.seq .skip rest') → J l' a' w' → m l' a' w' < m l a w → rest'.wp P (jumps (fun l' a' w' => J l' a' w' ∧ m l' a' w' < m l a w) Q) a' w') →
    rest.wp P (jumps (fun l' a' w' => J l' a' w' ∧ m l' a' w' < m l a w) Q) a w))
  (first : (∀ l' a' w' rest', findLabel c l' = some (.seq .skip rest') → J l' a' w' → rest'.wp P (jumps J Q) a' w') → c.wp P (jumps J Q) a w) : (Code.scope c).wp P Q a w := by
 have mono : ∀ {J1 J2 : Nat → Act → World → Prop} {rest : Code} {a w}, (∀ l a w, J1 l a w → J2 l a w) → rest.wp P (jumps J1 Q) a w → rest.wp P (jumps J2 Q) a w := by
  intro J1 J2 rest a w hj h
  refine wp_mono h ?_
  intro e a w he
  cases e with
  | goto l => exact hj l a w he
  | normal => exact he
  | exit id => exact he
  | ret => exact he
  | panic ch => exact he
  | outgrown => exact he
 have all : ∀ n l a w rest, findLabel c l = some (.seq .skip rest) → m l a w = n → J l a w → rest.wp P (jumps (fun l' a' w' => J l' a' w' ∧ m l' a' w' < n) Q) a w := by
  intro n
  induction n using Nat.strongRecOn with
  | _ n ih =>
   intro l a w rest hf hn hJ
   obtain ⟨rest', hf', hp⟩ := pass l a w hJ
   rw [hf] at hf'
   injection hf' with hf'
   injection hf' with _ hf'
   subst hf'
   rw [hn] at hp
   exact hp (fun l' a' w' rest2 hf2 hJ2 hlt => mono (fun l3 a3 w3 h3 => ⟨h3.1, by omega⟩) (ih _ hlt l' a' w' rest2 hf2 rfl hJ2))
 intro b k cs
 have key : ∀ n l a w rest, findLabel c l = some (.seq .skip rest) → m l a w = n → J l a w → ∃ e a' w', Q e a' w' ∧ Arrives P (lone (b.at a (.code (.seq .skip rest) :: .inScope c :: k)) cs w) b k cs e a' w' := by
  intro n
  induction n using Nat.strongRecOn with
  | _ n ih =>
   intro l a w rest hf hn hJ
   obtain ⟨e, a1, w1, hq, harr⟩ := wp_rest (all n l a w rest hf hn hJ) b (.inScope c :: k) cs
   cases e with
   | normal => exact ⟨.normal, a1, w1, hq, Steps.trans harr (.one step_inScope)⟩
   | exit id => exact ⟨.exit id, a1, w1, hq, fun k' hk => harr k' (by simp [exitTo, hk])⟩
   | goto l' =>
    obtain ⟨hJ', hlt⟩ := hq
    obtain ⟨rest2, hf2, _⟩ := pass l' a1 w1 hJ'
    have hg : gotoIn l' (.inScope c :: k) = some (.code (.seq .skip rest2) :: .inScope c :: k) := by simp [gotoIn, hf2]
    obtain ⟨e2, a2, w2, hq2, harr2⟩ := ih _ (by omega) l' a1 w1 rest2 hf2 rfl hJ'
    exact ⟨e2, a2, w2, hq2, .of_steps (harr _ hg) harr2⟩
   | ret => exact ⟨_, a1, w1, hq, harr⟩
   | panic ch => exact ⟨_, a1, w1, hq, harr⟩
   | outgrown => exact ⟨_, a1, w1, hq, harr⟩
 obtain ⟨e, a1, w1, hq, harr⟩ := first (fun l' a' w' rest' hf hJ => mono (fun _ _ _ h => h.1) (all _ l' a' w' rest' hf rfl hJ)) b (.inScope c :: k) cs
 cases e with
 | normal => exact ⟨.normal, a1, w1, hq, .head step_scope (Steps.trans harr (.one step_inScope))⟩
 | exit id => exact ⟨.exit id, a1, w1, hq, fun k' hk => .head step_scope (harr k' (by simp [exitTo, hk]))⟩
 | goto l' =>
  obtain ⟨rest2, hf2, _⟩ := pass l' a1 w1 hq
  have hg : gotoIn l' (.inScope c :: k) = some (.code (.seq .skip rest2) :: .inScope c :: k) := by simp [gotoIn, hf2]
  obtain ⟨e2, a2, w2, hq2, harr2⟩ := key _ l' a1 w1 rest2 hf2 rfl hq
  exact ⟨e2, a2, w2, hq2, .of_steps (.head step_scope (harr _ hg)) harr2⟩
 | ret => exact ⟨_, a1, w1, hq, .of_steps (.one step_scope) harr⟩
 | panic ch => exact ⟨_, a1, w1, hq, .of_steps (.one step_scope) harr⟩
 | outgrown => exact ⟨_, a1, w1, hq, .of_steps (.one step_scope) harr⟩
end
end Go.Proofs.YtkjkcgbmaojpiaaGreatDoor
namespace Go.Proofs.YtkjkcgbmaojpiaaGreatDoor
open Go.RowKit
def isLB (c : UInt8) : Bool := decide (97 ≤ c.toNat ∧ c.toNat ≤ 122)
theorem isLB_iff {c : UInt8} : isLB c = true ↔ 97 ≤ c.toNat ∧ c.toNat ≤ 122 := decide_eq_true_iff
def takenB (l : List UInt8) : Bool := l == [116, 114, 117, 101] || l == [102, 97, 108, 115, 101] || l == [105, 110] || l == [114, 101] || l == [105, 109]
def okB (c : UInt8) : Bool := isLB c || isD c || c == 95
theorem isLetter_any (c : UInt8) (w : World) :
  Calls Tryz.prog 118 #[.int .u8 c.toNat] w fun e w' => e = .returned (.bool (isLB c)) ∧ w = w' := by
 by_cases h1 : (97 : Int) ≤ c.toNat
 ·by_cases h2 : (c.toNat : Int) ≤ 122
  ·have hL : isLB c = true := decide_eq_true ⟨by omega, by omega⟩
   rw [hL]; clear hL
   go_enter Tryz.func118, Tryz.ntmps118
   go_wp2
   go_ret
   exact ⟨rfl, rfl⟩
  ·have hL : isLB c = false := decide_eq_false (fun h => h2 (by omega))
   rw [hL]; clear hL
   go_enter Tryz.func118, Tryz.ntmps118
   go_wp2
   go_ret
   exact ⟨rfl, rfl⟩
 ·have hL : isLB c = false := decide_eq_false (fun h => h1 (by omega))
  rw [hL]; clear hL
  go_enter Tryz.func118, Tryz.ntmps118
  go_wp2
  go_ret
  exact ⟨rfl, rfl⟩
theorem isDigit_any (c : UInt8) (w : World) :
  Calls Tryz.prog 120 #[.int .u8 c.toNat] w fun e w' => e = .returned (.bool (isD c)) ∧ w = w' := by
 by_cases h1 : (48 : Int) ≤ c.toNat
 ·by_cases h2 : (c.toNat : Int) ≤ 57
  ·have hL : isD c = true := decide_eq_true ⟨by omega, by omega⟩
   rw [hL]; clear hL
   go_enter Tryz.func120, Tryz.ntmps120
   go_wp2
   go_ret
   exact ⟨rfl, rfl⟩
  ·have hL : isD c = false := decide_eq_false (fun h => h2 (by omega))
   rw [hL]; clear hL
   go_enter Tryz.func120, Tryz.ntmps120
   go_wp2
   go_ret
   exact ⟨rfl, rfl⟩
 ·have hL : isD c = false := decide_eq_false (fun h => h1 (by omega))
  rw [hL]; clear hL
  go_enter Tryz.func120, Tryz.ntmps120
  go_wp2
  go_ret
  exact ⟨rfl, rfl⟩
theorem isTaken_any (s : ByteArray) (w : World) :
  Calls Tryz.prog 119 #[.string s] w fun e w' => e = .returned (.bool (takenB s.data.toList)) ∧ w = w' := by
 go_enter Tryz.func119, Tryz.ntmps119
 go_wp2
 all_goals go_ret
 all_goals refine ⟨?_, rfl⟩
 all_goals rw [← Lib.toList_data]
 all_goals simp_all [takenB]
end Go.Proofs.YtkjkcgbmaojpiaaGreatDoor
namespace Go.Proofs.YtkjkcgbmaojpiaaGreatDoor
open Go.RowKit
def nameB (l : List UInt8) : Bool := match l with | [] => false | c :: r => decide (r.length < 12) && isLB c && r.all okB && !takenB l
theorem ret_bool {a b : Bool} (h : a = b) : Ending.returned (.bool a) = .returned (.bool b) := by rw [h]
theorem at_list (s : ByteArray) (k : Nat) (_h : k < s.size) (h' : k < s.data.toList.length) : s.data.toList[k] = s[k] := by simp; rfl
theorem byte_is {c : UInt8} {k : Nat} (hk : k < 256) (h : c = UInt8.ofNat k) : ((c.toNat : Int) == (k : Nat)) = true := by
 rw [h, UInt8.toNat_ofNat', Nat.mod_eq_of_lt (show k < 2 ^ 8 from hk)]; exact beq_self_eq_true _
theorem byte_not {c : UInt8} {k : Nat} (hk : k < 256) (h : c ≠ UInt8.ofNat k) : ((c.toNat : Int) == (k : Nat)) = false := by
 apply beq_eq_false_iff_ne.2
 intro e
 apply h
 apply UInt8.toNat_inj.1
 rw [UInt8.toNat_ofNat', Nat.mod_eq_of_lt (show k < 2 ^ 8 from hk)]; omega
theorem nameB_end {l : List UInt8} {c : UInt8} {r : List UInt8} (e : l = c :: r) (h1 : isLB c = true) (h2 : r.length < 12) (h3 : r.all okB = true) : nameB l = !takenB l := by
 subst e; simp [nameB, h1, h2, h3]
theorem nameB_long {l : List UInt8} (h : 12 < l.length) : nameB l = false := by
 cases l with
 | nil => rfl
 | cons c r =>
  have : ¬ r.length < 12 := by simp at h; omega
  simp [nameB, this]
theorem nameB_first {l : List UInt8} (h : ∀ h0 : 0 < l.length, isLB l[0] = false) : nameB l = false := by
 cases l with
 | nil => rfl
 | cons c r =>
  have : isLB c = false := h (by simp)
  simp [nameB, this]
theorem nameB_bad {l : List UInt8} {k : Nat} (hk : k + 1 < l.length) (h : okB l[k + 1] = false) : nameB l = false := by
 cases l with
 | nil => rfl
 | cons c r =>
  have : r.all okB = false := by
   rw [List.all_eq_false]
   simp only [List.getElem_cons_succ] at h
   simp only [List.length_cons] at hk
   exact ⟨r[k]'(by omega), List.getElem_mem _, by rw [h]; decide⟩
  simp [nameB, this]
def Oks (l : List UInt8) (k : Nat) : Prop := ((l.drop 1).take k).all okB = true
theorem Oks.zero (l : List UInt8) : Oks l 0 := by simp [Oks]
theorem Oks.step {l : List UInt8} {k : Nat} (h : Oks l k) (hk : k + 1 < l.length) (ho : okB l[k + 1] = true) : Oks l (k + 1) := by
 unfold Oks at *
 have e : (l.drop 1).take (k + 1) = (l.drop 1).take k ++ [l[k + 1]] := by
  rw [List.take_succ_eq_append_getElem (by simp; omega)]
  simp
 rw [e, List.all_append, h]
 simp [ho]
theorem Oks.all {l : List UInt8} {k : Nat} (h : Oks l k) (hk : k + 1 = l.length) : ∃ c r, l = c :: r ∧ r.all okB = true := by
 cases l with
 | nil => simp at hk
 | cons c r =>
  refine ⟨c, r, rfl, ?_⟩
  unfold Oks at h
  simpa [List.take_of_length_le (show r.length ≤ k by simp at hk; omega)] using h
def NmAt (s : ByteArray) (k : Nat) (a : Act) : Prop := ∃ u1 u4 u5 u6 u7 u8 u9 u10 u11 u12 u13 u14 u15 u16 u17 u18 u19 u20 u21 u22 u23 u24 u25 u26 u27 u28 u29 u30 u31 u32 u33 u34 u35 u36 u37 u38 u39 u40 u41 u42 : Value,  a = { tmps := #[.string s, u1, .bool false, .int .i64 k, u4, u5, u6, u7, u8, u9, u10, u11, u12, u13, u14, u15, u16, u17, u18, u19, u20, u21, u22, u23, u24, u25, u26, u27, u28, u29, u30, u31, u32, u33, u34, u35, u36, u37, u38, u39, u40, u41, u42], defers := [] }
def kOf (a : Act) (i : Nat) : Nat := match a.tmps.getD i undef with | .int _ n => n.toNat | _ => 0
theorem name_no (s : ByteArray) (w : World) (h : s.data.toList = [] ∨ 12 < s.size ∨ ∃ h0 : 0 < s.size, isLB s[0] = false) :
  Calls Tryz.prog 82 #[.string s] w fun e w' => e = .returned (.bool false) ∧ w = w' := by
 by_cases h1 : s.data.toList = []
 ·have hne : s.toList.isEmpty = true := by rw [Lib.toList_data, h1]; rfl
  clear h h1
  go_enter Tryz.func82, Tryz.ntmps82
  go_wp2
  go_step3
  go_wp2
  rw [Exit.noGoto_ret]
  go_ret
  exact ⟨rfl, rfl⟩
 ·have hne : s.toList.isEmpty = false := by
   rw [Lib.toList_data]; simpa using h1
  by_cases h2 : 12 < s.size
  ·clear h h1
   have h2' : (12 : Int) < s.size := by omega
   go_enter Tryz.func82, Tryz.ntmps82
   go_wp2
   go_step3
   go_wp2
   rw [Exit.noGoto_ret]
   go_ret
   exact ⟨rfl, rfl⟩
  ·obtain ⟨h0, h3⟩ := h.resolve_left h1 |>.resolve_left h2
   clear h h1
   go_enter Tryz.func82, Tryz.ntmps82
   go_wp2
   go_step3
   go_wp2_with (go_at_call 118; refine (isLetter_any _ _).mono ?_; rintro e w' ⟨rfl, rfl⟩)
   rw [Exit.noGoto_ret]
   go_ret
   exact ⟨rfl, rfl⟩
theorem name_go (s : ByteArray) (w : World) (h1 : 0 < s.size) (h2 : ¬ 12 < s.size) (h3 : isLB s[0] = true) :
  Calls Tryz.prog 82 #[.string s] w fun e w' => e = .returned (.bool (nameB s.data.toList)) ∧ w = w' := by
 have hl : s.data.toList.length = s.size := (Lib.size_eq s).symm
 have hne : s.toList.isEmpty = false := by
  rw [Lib.toList_data]
  cases h : s.data.toList with
  | nil => rw [h] at hl; simp at hl; omega
  | cons a r => rfl
 have hend : ∀ k, Oks s.data.toList k → k + 1 = s.size → nameB s.data.toList = !takenB s.data.toList := by
  intro k ho hk
  obtain ⟨c, r, e, hr⟩ := ho.all (by omega)
  have h0 : isLB s.data.toList[0] = true := by rw [at_list s 0 h1]; exact h3
  refine nameB_end e ?_ ?_ hr
  ·simp only [e, List.getElem_cons_zero] at h0; exact h0
  ·rw [e] at hl; simp at hl; omega
 have hbad : ∀ k (hk : k + 1 < s.size), okB s[k + 1] = false → nameB s.data.toList = false := by
  intro k hk ho
  exact nameB_bad (k := k) (by omega) (by rw [at_list s _ hk]; exact ho)
 have hstep : ∀ k (hk : k + 1 < s.size), okB s[k + 1] = true → Oks s.data.toList k → Oks s.data.toList (k + 1) := by
  intro k hk ho h
  exact h.step (by omega) (by rw [at_list s _ hk]; exact ho)
 have HE := Lib.hid hend; have HB := Lib.hid hbad; have HS := Lib.hid hstep
 clear hend hbad hstep hl
 go_enter Tryz.func82, Tryz.ntmps82
 go_wp2
 refine wp_scope_labels (fun l a w' => w = w' ∧ l = 0 ∧ ∃ k, k < s.size ∧ Oks s.data.toList k ∧ NmAt s k a) (fun _ a _ => s.size - kOf a 3) ?_ ?_
 ·rintro l a w' ⟨rfl, rfl, k, hk, HO, u1, u4, u5, u6, u7, u8, u9, u10, u11, u12, u13, u14, u15, u16, u17, u18, u19, u20, u21, u22, u23, u24, u25, u26, u27, u28, u29, u30, u31, u32, u33, u34, u35, u36, u37, u38, u39, u40, u41, u42, rfl⟩
  refine ⟨_, rfl, ?_⟩
  intro H
  clear H
  by_cases he : k + 1 = s.size
  ·have he' : (k : Int) + 1 = s.size := by omega
   have HR := Lib.hid (HE.out k HO he)
   clear he
   go_wp2_with (go_at_call 119; refine (isTaken_any _ _).mono ?_; rintro e w' ⟨rfl, rfl⟩)
   go_ret
   exact ⟨ret_bool HR.out.symm, rfl⟩
  ·have hlt : k + 1 < s.size := by omega
   have he' : ¬ ((k : Int) + 1 = s.size) := by omega
   clear he
   cases hok : okB s[k + 1]
   ·have HR := Lib.hid (HB.out k hlt hok)
    unfold okB at hok
    simp only [Bool.or_eq_false_iff] at hok
    obtain ⟨⟨hb1, hb2⟩, hb3⟩ := hok
    have hb4 : ((s[k + 1].toNat : Int) == 95) = false := by
     apply beq_eq_false_iff_ne.2
     intro e
     apply (beq_eq_false_iff_ne.1 hb3)
     apply UInt8.toNat_inj.1
     show _ = 95
     omega
    clear hb3
    go_wp2_with (first | (go_at_call 118; refine (isLetter_any _ _).mono ?_; rintro e w' ⟨rfl, rfl⟩) | (go_at_call 120; refine (isDigit_any _ _).mono ?_; rintro e w' ⟨rfl, rfl⟩))
    go_ret
    exact ⟨ret_bool HR.out.symm, rfl⟩
   ·have HR := Lib.hid (HS.out k hlt hok HO)
    have h3 : isLB s[k + 1] = true ∨ (isLB s[k + 1] = false ∧ isD s[k + 1] = true) ∨ (isLB s[k + 1] = false ∧ isD s[k + 1] = false ∧ ((s[k + 1].toNat : Int) == 95) = true) := by
     unfold okB at hok
     cases hb1 : isLB s[k + 1]
     ·cases hb2 : isD s[k + 1]
      ·rw [hb1, hb2] at hok
       have := beq_iff_eq.1 hok
       exact Or.inr (Or.inr ⟨rfl, rfl, by rw [this]; rfl⟩)
      ·exact Or.inr (Or.inl ⟨rfl, rfl⟩)
     ·exact Or.inl rfl
    clear hok
    rcases h3 with hb1 | ⟨hb1, hb2⟩ | ⟨hb1, hb2, hb3⟩
    all_goals
     go_wp2_with (first | (go_at_call 118; refine (isLetter_any _ _).mono ?_; rintro e w' ⟨rfl, rfl⟩) | (go_at_call 120; refine (isDigit_any _ _).mono ?_; rintro e w' ⟨rfl, rfl⟩))
     go_step3
     refine ⟨⟨rfl, rfl, k + 1, hlt, HR.out, _, _, _, _, _, _, _, _, _, _, _, _, _, _, _, _, _, _, _, _, _, _, _, _, _, _, _, _, _, _, _, _, _, _, _, _, _, _, _, _, rfl⟩, ?_⟩
     simp [kOf]; omega
 ·intro H
  have HH := Lib.hid H; clear H
  go_wp2_with (go_at_call 118; refine (isLetter_any _ _).mono ?_; rintro e w' ⟨rfl, rfl⟩)
  go_step3
  refine walk_on (by assumption) (HH.out 0 _ _ _ rfl ⟨rfl, rfl, 0, h1, Oks.zero _, _, _, _, _, _, _, _, _, _, _, _, _, _, _, _, _, _, _, _, _, _, _, _, _, _, _, _, _, _, _, _, _, _, _, _, _, _, _, _, _, rfl⟩)
end Go.Proofs.YtkjkcgbmaojpiaaGreatDoor
namespace Go.Proofs.YtkjkcgbmaojpiaaGreatDoor
open Go.Lib
def fOf (l : List UInt8) : Nat := if l.head? = some 45 then 1 else 0
def okN (l : List UInt8) : Bool := !(l.drop (fOf l)).isEmpty && (l.drop (fOf l)).all isD && !((l.drop (fOf l)).head? == some 48 && decide (1 < l.length))
def valN (l : List UInt8) : Nat := valD 0 (l.drop (fOf l))
def numP (l : List UInt8) : Int × Int :=
 if okN l = true then (if 1099511627776 < valN l then (0, 5) else (if l.head? = some 45 then -(valN l : Int) else valN l, 0)) else (0, 1)
theorem numP_form {l : List UInt8} (h : okN l = false) : numP l = (0, 1) := by unfold numP; rw [if_neg (by rw [h]; decide)]
theorem numP_range {l : List UInt8} (h : okN l = true) (hv : 1099511627776 < valN l) : numP l = (0, 5) := by unfold numP; rw [if_pos h, if_pos hv]
theorem numP_neg {l : List UInt8} (h : okN l = true) (hv : ¬ 1099511627776 < valN l) (h45 : l.head? = some 45) : numP l = (-(valN l : Int), 0) := by unfold numP; rw [if_pos h, if_neg hv, if_pos h45]
theorem numP_pos {l : List UInt8} (h : okN l = true) (hv : ¬ 1099511627776 < valN l) (h45 : l.head? ≠ some 45) : numP l = ((valN l : Int), 0) := by unfold numP; rw [if_pos h, if_neg hv, if_neg h45]
structure Nd (l : List UInt8) (f j v : Nat) : Prop where
 le : f ≤ j
 len : j ≤ l.length
 digs : ((l.drop f).take (j - f)).all isD = true
 val : v = valD 0 ((l.drop f).take (j - f))
theorem Nd.start (l : List UInt8) (f : Nat) (h : f ≤ l.length) : Nd l f f 0 := ⟨Nat.le_refl _, h, by simp, by simp [valD_nil]⟩
theorem take_at (l : List UInt8) (f j : Nat) (hf : f ≤ j) (hj : j < l.length) : (l.drop f).take (j + 1 - f) = (l.drop f).take (j - f) ++ [l[j]] := by
 rw [show j + 1 - f = (j - f) + 1 by omega, List.take_succ_eq_append_getElem (by rw [List.length_drop]; omega)]
 congr 2
 rw [List.getElem_drop]
 congr 1; omega
theorem Nd.step {l : List UInt8} {f j v : Nat} (h : Nd l f j v) (hj : j < l.length) (hd : isD l[j] = true) : Nd l f (j + 1) (10 * v + digv l[j]) := by
 have e := take_at l f j h.le hj
 refine ⟨by have := h.le; omega, hj, ?_, ?_⟩
 ·rw [e, List.all_append, h.digs]; simp [hd]
 ·rw [e, valD_append, ← h.val, valD_cons, valD_nil]
theorem Nd.full {l : List UInt8} {f j v : Nat} (h : Nd l f j v) (hj : j = l.length) : (l.drop f).all isD = true ∧ v = valD 0 (l.drop f) := by
 have e : (l.drop f).take (j - f) = l.drop f := List.take_of_length_le (by rw [List.length_drop]; omega)
 have h1 := h.digs; have h2 := h.val
 rw [e] at h1 h2
 exact ⟨h1, h2⟩
theorem okN_empty {l : List UInt8} (h : l.length ≤ fOf l) : okN l = false := by
 unfold okN; rw [List.drop_of_length_le h]; rfl
theorem okN_bad {l : List UInt8} {j : Nat} (hf : fOf l ≤ j) (hj : j < l.length) (hd : isD l[j] = false) : okN l = false := by
 have h1 : (l.drop (fOf l)).all isD = false := by
  rw [List.all_eq_false]
  refine ⟨l[j], ?_, by rw [hd]; decide⟩
  rw [List.mem_iff_getElem]
  refine ⟨j - fOf l, by rw [List.length_drop]; omega, ?_⟩
  rw [List.getElem_drop]
  congr 1; omega
 unfold okN; rw [h1]; simp
theorem okN_nought {l : List UInt8} (h : (l.drop (fOf l)).head? = some 48) (h1 : 1 < l.length) : okN l = false := by
 unfold okN; rw [h]; simp [h1]
theorem okN_all {l : List UInt8} {v : Nat} (h : Nd l (fOf l) l.length v) (hne : fOf l < l.length) (h48 : (l.drop (fOf l)).head? ≠ some 48 ∨ l.length = 1) : okN l = true ∧ valN l = v := by
 obtain ⟨h1, h2⟩ := h.full rfl
 refine ⟨?_, h2.symm⟩
 have h3 : (l.drop (fOf l)).isEmpty = false := by
  rw [List.isEmpty_eq_false_iff]
  intro e
  have := congrArg List.length e
  rw [List.length_drop] at this
  simp at this; omega
 unfold okN; rw [h1, h3]
 rcases h48 with h | h
 ·rw [beq_eq_false_iff_ne.2 h]; rfl
 ·simp [h]
theorem numP_zero : numP [48] = (0, 0) := by decide +kernel
theorem one_zero {l : List UInt8} (h1 : l.length = 1) (h : l.head? = some 48) : l = [48] := by
 match l, h1 with
 | [c], _ => simp at h; rw [h]
end Go.Proofs.YtkjkcgbmaojpiaaGreatDoor
namespace Go.Proofs.YtkjkcgbmaojpiaaGreatDoor
open Go.RowKit
def DAt (s : ByteArray) (b : Bool) (j : Nat) (n : Int) (a : Act) : Prop := ∃ u1 u2 u3 u7 u8 u9 u10 u11 u12 u13 u14 u15 u16 u17 u18 u19 u20 u21 u22 u23 u24 u25 u26 u27 u28 u29 u30 u31 u32 u33 u34 u35 u36 u37 u38 u39 u40 u41 u42 u43 u44 u45 u46 u47 u48 u49 u50 u51 u52 u53 u54 u55 u56 u57 u58 u59 u60 u61 u62 u63 : Value,  a = { tmps := #[.string s, u1, u2, u3, .int .i64 n, .int .i64 j, .bool b, u7, u8, u9, u10, u11, u12, u13, u14, u15, u16, u17, u18, u19, u20, u21, u22, u23, u24, u25, u26, u27, u28, u29, u30, u31, u32, u33, u34, u35, u36, u37, u38, u39, u40, u41, u42, u43, u44, u45, u46, u47, u48, u49, u50, u51, u52, u53, u54, u55, u56, u57, u58, u59, u60, u61, u62, u63], defers := [] }
def OAt (s : ByteArray) (a : Act) : Prop := ∃ u1 u2 u3 u4 u5 u6 u7 u8 u9 u10 u11 u12 u13 u14 u15 u16 u17 u18 u19 u20 u21 u22 u23 u24 u25 u26 u27 u28 u29 u30 u31 u32 u33 u34 u35 u36 u37 u38 u39 u40 u41 u42 u43 u44 u45 u46 u47 u48 u49 u50 u51 u52 u53 u54 u55 u56 u57 u58 u59 u60 u61 u62 u63 : Value,  a = { tmps := #[.string s, u1, u2, u3, u4, u5, u6, u7, u8, u9, u10, u11, u12, u13, u14, u15, u16, u17, u18, u19, u20, u21, u22, u23, u24, u25, u26, u27, u28, u29, u30, u31, u32, u33, u34, u35, u36, u37, u38, u39, u40, u41, u42, u43, u44, u45, u46, u47, u48, u49, u50, u51, u52, u53, u54, u55, u56, u57, u58, u59, u60, u61, u62, u63], defers := [] }
structure Dig (l : List UInt8) (b : Bool) (j : Nat) (n : Int) : Prop where
 ex : ∃ v : Nat, Nd l (fOf l) j v ∧ n = min (v : Int) 1099511627777
 head : b = true ↔ l.head? = some 45
 lt : j = fOf l ∨ j < l.length
 nz : (l.drop (fOf l)).head? ≠ some 48
 hj : j ≤ l.length
def NumJ (s : ByteArray) (w : World) (l : Nat) (a : Act) (w' : World) : Prop :=
 w = w' ∧ ((l = 2 ∧ ∃ b j n, Dig s.data.toList b j n ∧ DAt s b j n a) ∨
  (l = 0 ∧ numP s.data.toList = (0, if s.size = 1 then 0 else 1) ∧ OAt s a) ∨ (l = 1 ∧ numP s.data.toList = (0, 1) ∧ OAt s a))
def NumM (s : ByteArray) (l : Nat) (a : Act) (_ : World) : Nat := if l = 2 then s.size - kOf a 5 + 2 else if l = 0 then 1 else 0
theorem numM_one {s : ByteArray} {a a' : Act} {w w' : World} : NumM s 1 a w < NumM s 2 a' w' := by simp [NumM]
theorem numM_zero {s : ByteArray} {a a' : Act} {w w' : World} : NumM s 1 a w < NumM s 0 a' w' := by simp [NumM]
theorem numM_step {s : ByteArray} {a a' : Act} {w w' : World} {j : Nat} (h : kOf a 5 = j + 1) (h' : kOf a' 5 = j) (hj : j < s.size) : NumM s 2 a w < NumM s 2 a' w' := by
 simp only [NumM, h, h', if_true]; omega
theorem dig_step {l : List UInt8} {b : Bool} {j : Nat} {n n' : Int} {c : UInt8} {z : Nat} (h : Dig l b j n) (hj : j < l.length) (hc : l[j] = c) (hl : l.length = z) (hd : isD c = true)
  (hn : (n' = n * 10 + ((c.toNat : Int) - 48) ∧ n' ≤ 1099511627777) ∨ (n' = 1099511627777 ∧ 1099511627777 ≤ n * 10 + ((c.toNat : Int) - 48))) :
  (j + 1 < z → Dig l b (j + 1) n') ∧ (j + 1 = z → 1099511627776 < n' → numP l = (0, 5)) ∧ (j + 1 = z → ¬ 1099511627776 < n' → numP l = (bif b then -n' else n', 0)) := by
 obtain ⟨v, hv, rfl⟩ := h.ex
 have hb := isD_iff.1 hd
 have hs := hv.step hj (by rw [hc]; exact hd)
 rw [hc] at hs
 have hdv : (digv c : Int) = (c.toNat : Int) - 48 := by unfold digv; omega
 have hn' : n' = min ((10 * v + digv c : Nat) : Int) 1099511627777 := by
  have : ((10 * v + digv c : Nat) : Int) = 10 * (v : Int) + ((c.toNat : Int) - 48) := by rw [← hdv]; simp
  rw [this]
  clear hs hdv
  omega
 have hf : fOf l < l.length := by have := hv.le; omega
 refine ⟨fun hz => ⟨⟨_, hs, hn'⟩, h.head, Or.inr (by omega), h.nz, by omega⟩, fun hz hr => ?_, fun hz hr => ?_⟩
 ·have e : j + 1 = l.length := by omega
  rw [e] at hs
  obtain ⟨h1, h2⟩ := okN_all hs hf (Or.inl h.nz)
  exact numP_range h1 (by rw [h2]; omega)
 ·have e : j + 1 = l.length := by omega
  rw [e] at hs
  obtain ⟨h1, h2⟩ := okN_all hs hf (Or.inl h.nz)
  have hnv : n' = (valN l : Int) := by rw [h2]; omega
  cases b
  ·rw [numP_pos h1 (by omega) (fun e => by have := h.head.2 e; cases this), hnv]; rfl
  ·rw [numP_neg h1 (by omega) (h.head.1 rfl), hnv]; rfl
theorem dig_start {l : List UInt8} {b : Bool} {j : Nat} (hb : b = true ↔ l.head? = some 45) (hj : fOf l = j) (hle : j ≤ l.length) (nz : (l.drop j).head? ≠ some 48) : Dig l b j 0 := by
 subst hj
 exact ⟨⟨0, Nd.start _ _ hle, rfl⟩, hb, Or.inl rfl, nz, hle⟩
theorem head_at (s : ByteArray) (h : 0 < s.size) : s.data.toList.head? = some s[0] := by
 rw [List.head?_eq_getElem?, List.getElem?_eq_getElem (by rw [← Lib.size_eq]; exact h)]
 simp; rfl
theorem drop_head_at (s : ByteArray) (k : Nat) (h : k < s.size) : (s.data.toList.drop k).head? = some s[k] := by
 rw [List.head?_drop, List.getElem?_eq_getElem (by rw [← Lib.size_eq]; exact h)]
 simp; rfl
def NumPost (l : List UInt8) (w : World) (e : Ending) (w' : World) : Prop := e = .returned (.tuple #[.int .i64 (numP l).1, .int .i64 (numP l).2]) ∧ w = w'
theorem NumPost.mk' {l : List UInt8} {w : World} {a b : Int} (h : numP l = (a, b)) : NumPost l w (.returned (.tuple #[.int .i64 a, .int .i64 b])) w := by
 unfold NumPost; rw [h]; exact ⟨rfl, rfl⟩
theorem number_any (s : ByteArray) (w : World) (hs : s.size ≤ 281474976710656) :
  Calls Tryz.prog 103 #[.string s] w (NumPost s.data.toList w) := by
 have hl : s.data.toList.length = s.size := (Lib.size_eq s).symm
 go_enter Tryz.func103, Tryz.ntmps103
 go_wp2
 refine wp_scope_labels (NumJ s w) (NumM s) ?_ ?_
 ·rintro l a w' ⟨rfl, ⟨rfl, b, j, n, hd, u1, u2, u3, u7, u8, u9, u10, u11, u12, u13, u14, u15, u16, u17, u18, u19, u20, u21, u22, u23, u24, u25, u26, u27, u28, u29, u30, u31, u32, u33, u34, u35, u36, u37, u38, u39, u40, u41, u42, u43, u44, u45, u46, u47, u48, u49, u50, u51, u52, u53, u54, u55, u56, u57, u58, u59, u60, u61, u62, u63, rfl⟩ | ⟨rfl, hn, u1, u2, u3, u4, u5, u6, u7, u8, u9, u10, u11, u12, u13, u14, u15, u16, u17, u18, u19, u20, u21, u22, u23, u24, u25, u26, u27, u28, u29, u30, u31, u32, u33, u34, u35, u36, u37, u38, u39, u40, u41, u42, u43, u44, u45, u46, u47, u48, u49, u50, u51, u52, u53, u54, u55, u56, u57, u58, u59, u60, u61, u62, u63, rfl⟩ | ⟨rfl, hn, u1, u2, u3, u4, u5, u6, u7, u8, u9, u10, u11, u12, u13, u14, u15, u16, u17, u18, u19, u20, u21, u22, u23, u24, u25, u26, u27, u28, u29, u30, u31, u32, u33, u34, u35, u36, u37, u38, u39, u40, u41, u42, u43, u44, u45, u46, u47, u48, u49, u50, u51, u52, u53, u54, u55, u56, u57, u58, u59, u60, u61, u62, u63, rfl⟩⟩
  ·refine ⟨_, rfl, ?_⟩
   intro H
   clear H
   have hjl := hd.hj
   rw [hl] at hjl
   have hn0 : 0 ≤ n ∧ n ≤ 1099511627777 := by obtain ⟨v, _, rfl⟩ := hd.ex; omega
   obtain ⟨hn0, hn1⟩ := hn0
   have HD := Lib.hid hd; clear hd
   by_cases hj : j = s.size
   ·have hj' : (j : Int) = s.size := by omega
    have hf : numP s.data.toList = (0, 1) := by
     refine numP_form (okN_empty ?_)
     rcases HD.out.lt with h | h <;> omega
    have HF := Lib.hid hf; clear hf hj
    go_wp2
    go_step3
    refine ⟨⟨rfl, Or.inr (Or.inr ⟨rfl, HF.out, _, _, _, _, _, _, _, _, _, _, _, _, _, _, _, _, _, _, _, _, _, _, _, _, _, _, _, _, _, _, _, _, _, _, _, _, _, _, _, _, _, _, _, _, _, _, _, _, _, _, _, _, _, _, _, _, _, _, _, _, _, _, _, rfl⟩)⟩, numM_one⟩
   ·have hlt : j < s.size := by omega
    have hj' : ¬ (j : Int) = s.size := by omega
    clear hj
    have hge : s.data.toList[j]'(by omega) = s[j] := at_list s j hlt _
    cases hdg : isD s[j]
    ·have hf : numP s.data.toList = (0, 1) := by
      refine numP_form (okN_bad (j := j) ?_ (by omega) (by rw [hge]; exact hdg))
      obtain ⟨v, h, _⟩ := HD.out.ex
      exact h.le
     have HF := Lib.hid hf; clear hf hge
     go_wp2_with (go_at_call 120; refine (isDigit_any _ _).mono ?_; rintro e w' ⟨rfl, rfl⟩)
     go_step3
     refine ⟨⟨rfl, Or.inr (Or.inr ⟨rfl, HF.out, _, _, _, _, _, _, _, _, _, _, _, _, _, _, _, _, _, _, _, _, _, _, _, _, _, _, _, _, _, _, _, _, _, _, _, _, _, _, _, _, _, _, _, _, _, _, _, _, _, _, _, _, _, _, _, _, _, _, _, _, _, _, _, rfl⟩)⟩, numM_one⟩
    ·have hb := isD_iff.1 hdg
     have hb1 : (48 : Int) ≤ s[j].toNat := by omega
     have hb2 : (s[j].toNat : Int) ≤ 57 := by omega
     have key := fun n' h => dig_step (n' := n') HD.out (by omega) hge hl hdg h
     have KEY := Lib.hid key; clear key hge hb
     cases b
     all_goals
      go_wp2_with (go_at_call 120; refine (isDigit_any _ _).mono ?_; rintro e w' ⟨rfl, rfl⟩)
      all_goals first
       | (go_step3; exact ⟨⟨rfl, Or.inl ⟨rfl, _, j + 1, _, (KEY.out _ (by omega)).1 (by omega), _, _, _, _, _, _, _, _, _, _, _, _, _, _, _, _, _, _, _, _, _, _, _, _, _, _, _, _, _, _, _, _, _, _, _, _, _, _, _, _, _, _, _, _, _, _, _, _, _, _, _, _, _, _, _, _, _, _, _, _, rfl⟩⟩, numM_step rfl rfl hlt⟩)
       | (go_ret2; exact NumPost.mk' ((KEY.out 1099511627777 (by omega)).2.1 (by omega) (by omega)))
       | (go_ret2; exact NumPost.mk' ((KEY.out _ (by omega)).2.2 (by omega) (by omega)))
  ·refine ⟨_, rfl, ?_⟩
   intro H
   have HH := Lib.hid H; clear H
   by_cases h1 : s.size = 1
   ·have h1' : (s.size : Int) = 1 := by omega
    rw [if_pos h1] at hn
    have HN := Lib.hid hn; clear hn h1
    go_wp2
    go_ret2
    exact NumPost.mk' HN.out
   ·have h1' : ¬ (s.size : Int) = 1 := by omega
    rw [if_neg h1] at hn
    have HN := Lib.hid hn; clear hn h1
    go_wp2
    go_step3
    refine walk_on (by assumption) (HH.out 1 _ _ _ rfl ⟨rfl, Or.inr (Or.inr ⟨rfl, HN.out, _, _, _, _, _, _, _, _, _, _, _, _, _, _, _, _, _, _, _, _, _, _, _, _, _, _, _, _, _, _, _, _, _, _, _, _, _, _, _, _, _, _, _, _, _, _, _, _, _, _, _, _, _, _, _, _, _, _, _, _, _, _, _, rfl⟩)⟩ numM_zero)
  ·refine ⟨_, rfl, ?_⟩
   intro H
   clear H
   have HN := Lib.hid hn; clear hn
   go_wp2
   go_ret2
   exact NumPost.mk' HN.out
 ·intro H
  have HH := Lib.hid H; clear H
  by_cases h0 : 0 < s.size
  ·have hh := head_at s h0
   by_cases h45 : s[0] = 45
   ·have t45 : ((s[0].toNat : Int) == 45) = true := byte_is (k := 45) (by decide) h45
    have hf : fOf s.data.toList = 1 := by unfold fOf; rw [hh, h45]; rfl
    have hb : true = true ↔ s.data.toList.head? = some 45 := ⟨fun _ => by rw [hh, h45], fun _ => rfl⟩
    by_cases h1 : 1 < s.size
    ·have hd := drop_head_at s 1 h1
     by_cases h48 : s[1] = 48
     ·have t48 : ((s[1].toNat : Int) == 48) = true := byte_is (k := 48) (by decide) h48
      have hn : numP s.data.toList = (0, if s.size = 1 then 0 else 1) := by
       rw [if_neg (by omega)]
       exact numP_form (okN_nought (by rw [hf, hd, h48]) (by omega))
      have HN := Lib.hid hn
      clear hn hd h48 hf hb h45 hh
      go_wp2
      go_step3
      exact ⟨rfl, Or.inr (Or.inl ⟨rfl, HN.out, _, _, _, _, _, _, _, _, _, _, _, _, _, _, _, _, _, _, _, _, _, _, _, _, _, _, _, _, _, _, _, _, _, _, _, _, _, _, _, _, _, _, _, _, _, _, _, _, _, _, _, _, _, _, _, _, _, _, _, _, _, _, _, rfl⟩)⟩
     ·have t48 : ((s[1].toNat : Int) == 48) = false := byte_not (k := 48) (by decide) h48
      have hg : Dig s.data.toList true 1 0 := dig_start hb hf (by omega) (by rw [hd]; intro e; injection e with e; exact h48 e)
      clear hd h48 hf hb h45 hh
      go_wp2
      go_step3
      refine walk_on (by assumption) (HH.out 2 _ _ _ rfl ⟨rfl, Or.inl ⟨rfl, true, 1, 0, hg, _, _, _, _, _, _, _, _, _, _, _, _, _, _, _, _, _, _, _, _, _, _, _, _, _, _, _, _, _, _, _, _, _, _, _, _, _, _, _, _, _, _, _, _, _, _, _, _, _, _, _, _, _, _, _, _, _, _, _, _, rfl⟩⟩)
    ·have hg : Dig s.data.toList true 1 0 := dig_start hb hf (by omega) (by rw [List.drop_of_length_le (by omega)]; simp)
     clear hf hb h45 hh
     have h1' : (s.size : Int) = 1 := by omega
     clear h1
     go_wp2
     go_step3
     refine walk_on (by assumption) (HH.out 2 _ _ _ rfl ⟨rfl, Or.inl ⟨rfl, true, 1, 0, hg, _, _, _, _, _, _, _, _, _, _, _, _, _, _, _, _, _, _, _, _, _, _, _, _, _, _, _, _, _, _, _, _, _, _, _, _, _, _, _, _, _, _, _, _, _, _, _, _, _, _, _, _, _, _, _, _, _, _, _, _, rfl⟩⟩)
   ·have t45 : ((s[0].toNat : Int) == 45) = false := byte_not (k := 45) (by decide) h45
    have hne : s.data.toList.head? ≠ some 45 := by rw [hh]; intro e; injection e with e; exact h45 e
    have hf : fOf s.data.toList = 0 := by unfold fOf; rw [if_neg hne]
    have hb : false = true ↔ s.data.toList.head? = some 45 := ⟨fun h => (by cases h), fun h => absurd h hne⟩
    by_cases h48 : s[0] = 48
    ·have t48 : ((s[0].toNat : Int) == 48) = true := byte_is (k := 48) (by decide) h48
     have hn : numP s.data.toList = (0, if s.size = 1 then 0 else 1) := by
      by_cases h1 : s.size = 1
      ·rw [if_pos h1, one_zero (l := s.data.toList) (by omega) (by rw [hh, h48]), numP_zero]
      ·rw [if_neg h1]
       exact numP_form (okN_nought (by rw [hf, List.drop_zero, hh, h48]) (by omega))
     have HN := Lib.hid hn
     clear hn h48 hf hb h45 hh hne
     go_wp2
     go_step3
     exact ⟨rfl, Or.inr (Or.inl ⟨rfl, HN.out, _, _, _, _, _, _, _, _, _, _, _, _, _, _, _, _, _, _, _, _, _, _, _, _, _, _, _, _, _, _, _, _, _, _, _, _, _, _, _, _, _, _, _, _, _, _, _, _, _, _, _, _, _, _, _, _, _, _, _, _, _, _, _, rfl⟩)⟩
    ·have t48 : ((s[0].toNat : Int) == 48) = false := byte_not (k := 48) (by decide) h48
     have hg : Dig s.data.toList false 0 0 := dig_start hb hf (by omega) (by rw [List.drop_zero, hh]; intro e; injection e with e; exact h48 e)
     clear h48 hf hb h45 hh hne
     go_wp2
     go_step3
     refine walk_on (by assumption) (HH.out 2 _ _ _ rfl ⟨rfl, Or.inl ⟨rfl, false, 0, 0, hg, _, _, _, _, _, _, _, _, _, _, _, _, _, _, _, _, _, _, _, _, _, _, _, _, _, _, _, _, _, _, _, _, _, _, _, _, _, _, _, _, _, _, _, _, _, _, _, _, _, _, _, _, _, _, _, _, _, _, _, _, rfl⟩⟩)
  ·have hnil : s.data.toList = [] := List.eq_nil_of_length_eq_zero (by omega)
   have hg : Dig s.data.toList false 0 0 := dig_start (by rw [hnil]; simp) (by rw [hnil]; rfl) (by omega) (by rw [hnil]; simp)
   have h0' : (s.size : Int) = 0 := by omega
   clear hnil h0
   go_wp2
   go_step3
   refine walk_on (by assumption) (HH.out 2 _ _ _ rfl ⟨rfl, Or.inl ⟨rfl, false, 0, 0, hg, _, _, _, _, _, _, _, _, _, _, _, _, _, _, _, _, _, _, _, _, _, _, _, _, _, _, _, _, _, _, _, _, _, _, _, _, _, _, _, _, _, _, _, _, _, _, _, _, _, _, _, _, _, _, _, _, _, _, _, _, rfl⟩⟩)
end Go.Proofs.YtkjkcgbmaojpiaaGreatDoor
namespace Go.Proofs.YtkjkcgbmaojpiaaGreatDoor
open Go.RowKit
structure Rig (l : List UInt8) (b : Bool) (j : Nat) (n : Int) : Prop where
 ex : ∃ v : Nat, Nd l (fOf l) j v ∧ ((n = v ∧ v ≤ 1099511627776) ∨ (1099511627776 < n ∧ 1099511627776 < v))
 head : b = true ↔ l.head? = some 45
 ne : fOf l < l.length
 nz : (l.drop (fOf l)).head? ≠ some 48 ∨ l.length = 1
 lo : 0 ≤ n
 hi : n ≤ 10995116277769
theorem Rig.step {l : List UInt8} {b : Bool} {j : Nat} {n n' : Int} {c : UInt8} (h : Rig l b j n) (hj : j < l.length) (hc : l[j] = c) (hd : isD c = true)
  (hn : (n ≤ 1099511627776 ∧ n' = 10 * n + ((c.toNat : Int) - 48)) ∨ (1099511627776 < n ∧ n' = n)) : Rig l b (j + 1) n' := by
 obtain ⟨v, hv, hnv⟩ := h.ex
 have hb := isD_iff.1 hd
 have hs := hv.step hj (by rw [hc]; exact hd)
 rw [hc] at hs
 have hdv : (digv c : Int) = (c.toNat : Int) - 48 := by unfold digv; omega
 have h0 := h.lo; have h1 := h.hi
 refine ⟨⟨_, hs, ?_⟩, h.head, h.ne, h.nz, by omega, by omega⟩
 have : ((10 * v + digv c : Nat) : Int) = 10 * (v : Int) + ((c.toNat : Int) - 48) := by rw [← hdv]; simp
 omega
theorem Rig.stop {l : List UInt8} {b : Bool} {j : Nat} {n : Int} (h : Rig l b j n) (hj : j = l.length) :
  (1099511627776 < n → numP l = (0, 5)) ∧ (¬ 1099511627776 < n → numP l = (bif b then -n else n, 0)) := by
 subst hj
 obtain ⟨v, hv, hnv⟩ := h.ex
 obtain ⟨h1, h2⟩ := okN_all hv h.ne h.nz
 refine ⟨fun hr => numP_range h1 (by rw [h2]; omega), fun hr => ?_⟩
 have e : n = (valN l : Int) := by rw [h2]; omega
 cases b
 ·rw [numP_pos h1 (by omega) (fun e => by have := h.head.2 e; cases this), e]; rfl
 ·rw [numP_neg h1 (by omega) (h.head.1 rfl), e]; rfl
def intOf : Value → Int | .int _ q => q | _ => 0
end Go.Proofs.YtkjkcgbmaojpiaaGreatDoor
namespace Go.Proofs.YtkjkcgbmaojpiaaGreatDoor
open Go.RowKit
def Pn (l : List UInt8) (j : Nat) : Prop := j = 0 ∨ ((∃ h : 0 < l.length, isLB l[0] = true) ∧ Oks l (j - 1))
theorem Pn.first {l : List UInt8} (h : 0 < l.length) (hc : isLB l[0] = true) : Pn l (0 + 1) := Or.inr ⟨⟨h, hc⟩, Oks.zero _⟩
theorem Pn.step {l : List UInt8} {j : Nat} (h : Pn l j) (h0 : 0 < j) (hj : j < l.length) (hc : okB l[j] = true) : Pn l (j + 1) := by
 rcases h with h | ⟨h1, h2⟩
 ·omega
 ·refine Or.inr ⟨h1, ?_⟩
  obtain ⟨k, rfl⟩ : ∃ k, j = k + 1 := ⟨j - 1, by omega⟩
  exact h2.step hj hc
theorem Pn.stop {l : List UInt8} {j : Nat} (h : Pn l j) (hj : j = l.length) (h0 : 0 < j) (h12 : j ≤ 12) (ht : takenB l = false) : nameB l = true := by
 rcases h with h | ⟨⟨h1, h2⟩, h3⟩
 ·omega
 ·obtain ⟨c, r, e, hr⟩ := h3.all (by omega)
  have hc : isLB c = true := by simp only [e, List.getElem_cons_zero] at h2; exact h2
  rw [nameB_end e hc (by rw [e] at hj; simp at hj; omega) hr, ht]; rfl
theorem okB_letter {c : UInt8} (h : isLB c = true) : okB c = true := by simp [okB, h]
theorem name_any (s : ByteArray) (w : World) :
  Calls Tryz.prog 82 #[.string s] w fun e w' => e = .returned (.bool (nameB s.data.toList)) ∧ w = w' := by
 have hl : s.data.toList.length = s.size := (Lib.size_eq s).symm
 by_cases h1 : 0 < s.size
 ·by_cases h2 : 12 < s.size
  ·rw [nameB_long (by omega)]; exact name_no s w (Or.inr (Or.inl h2))
  ·cases h3 : isLB s[0]
   ·rw [nameB_first (fun h0 => by rw [at_list s 0 h1]; exact h3)]; exact name_no s w (Or.inr (Or.inr ⟨h1, h3⟩))
   ·exact name_go s w h1 h2 h3
 ·have e : s.data.toList = [] := List.eq_nil_of_length_eq_zero (by omega)
  rw [e]; exact name_no s w (Or.inl e)
end Go.Proofs.YtkjkcgbmaojpiaaGreatDoor
