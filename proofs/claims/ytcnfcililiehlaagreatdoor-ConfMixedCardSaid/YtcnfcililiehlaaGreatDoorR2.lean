/- Own texts, joined: Jm, Nm, N2, Nb, N4, N5, Ea, Eb, Shelf, Eg, Eh, Di. -/
import Derived.Test.YtcnfcililiehlaaGreatDoorR1
import Derived.Scope
import Derived.ScopeJumps
import Derived.WalkMore
import Derived.Test.YtcnfcililiehlaaGreatDoorProg
import Derived.WalkKit
import Derived.WalkSpells
import Derived.WalkLawsBesides
import Derived.Lib.Hide
import Derived.Laws.OwnMore
import Derived.OneCell
import Derived.Deep.Onto
import Derived.Deep.QuietTactic
import Derived.BigQuiet
import Derived.Deep.Draws
import Derived.RegionTactic
import Derived.Deep.RegionLaw
import Derived.Laws.Rows
import Derived.Shelf.Small.Utf8
import Derived.Shelf.Small.Strs
import Derived.Shelf.Small.Wraps
import Derived.Shelf.Utf8.RuneCount
import Derived.Shelf.Strconv.Itoa0
import Derived.Shelf.Strconv.Itoa1
import Derived.Shelf.LaysM
import Derived.Shelf.Strconv.Itoa2
import Derived.Shelf.Strconv.Itoa3
import Derived.Shelf.Strconv.Itoa4
import Derived.Shelf.Strconv.ParseIntEmpty
import Derived.Shelf.Strconv.Clone
import Derived.Shelf.Strconv.SyntaxError
import Derived.Shelf.LaysC
import Derived.Shelf.Strconv.ToError
import Derived.Shelf.Strconv.Lower
import Derived.Shelf.Strconv.ParseUint10
import Derived.Shelf.Strconv.ParseUint10Empty
import Derived.Shelf.Strconv.ParseUint10Any
import Derived.Shelf.Strconv.ParseInt10
import Derived.Shelf.Strconv.RangeError
import Derived.Shelf.Strconv.ToErrorRange
import Derived.Shelf.Strconv.ParseUintEmpty
import Derived.Shelf.Strconv.ParseUint10b64
import Derived.Shelf.Strconv.ParseUint10b32
import Derived.Shelf.Strconv.ParseUint10b16
import Derived.Shelf.Strconv.ParseUint10b8
import Derived.Shelf.Strconv.ParseUint10At
import Derived.Shelf.Strconv.ParseInt10At64
import Derived.Shelf.Strconv.ParseInt10At32
import Derived.Shelf.Strconv.ParseInt10At16
import Derived.Shelf.Strconv.ParseInt10At8
import Derived.Shelf.Strconv.ParseInt10All
import Derived.Shelf.Strconv.ParseIntPublic10
import Derived.Shelf.Strconv.ErrVarParseInt
import Derived.Shelf.Strings.Search1
import Derived.Shelf.Strings.Search2
import Derived.Shelf.Strings.Search3
import Derived.Shelf.Strings.Cut
import Derived.Shelf.Strings.Count
import Derived.Shelf.Strings.Shaped
import Derived.Shelf.Strings.Prefix
import Derived.Shelf.Strings.Split
import Derived.Shelf.Strings.SplitShaped
import Derived.Shelf.Unicode.Decode
import Derived.Shelf.Strings.Runes
import Derived.Shelf.Strings.RuneCount
import Derived.Shelf.Strings.IndexAny
import Derived.Shelf.Strings.AsciiSet
import Derived.Shelf.Strings.IndexAnyAll
import Derived.Shelf.Strings.Explode
import Derived.Shelf.Unicode.DecodeSlow
import Derived.IntWalk
import Derived.Lib.AppendIntMem
import Derived.Laws.IdiomStrings
import Derived.Laws.Concat
namespace Go.Proofs.YtcnfcililiehlaaGreatDoor
open Go
def jumps (J : Nat -> Act -> World -> Prop) (Q : Exit -> Act -> World -> Prop) : Exit -> Act -> World -> Prop
 | .goto l, a, w => J l a w
 | e, a, w => Q e a w
section
variable {P : Program} {a : Act} {w : World} {Q : Exit -> Act -> World -> Prop} {J : Nat -> Act -> World -> Prop}
@[go_sem] theorem jumps_normal : jumps J Q .normal a w = Q .normal a w := rfl
@[go_sem] theorem jumps_exit (id : Nat) : jumps J Q (.exit id) a w = Q (.exit id) a w := rfl
@[go_sem] theorem jumps_ret : jumps J Q .ret a w = Q .ret a w := rfl
@[go_sem] theorem jumps_panic (ch : List PanicEntry) : jumps J Q (.panic ch) a w = Q (.panic ch) a w := rfl
theorem walk_on {K : Act -> World -> Prop} {y : Code} (hK : ∀ a w, y.wp P Q a w -> K a w) (h : y.wp P Q a w) : Exit.then K Q .normal a w := hK _ _ h
theorem wp_rest {rest : Code} (h : rest.wp P Q a w) : (Code.seq .skip rest).wp P Q a w := wp_seq (wp_skip h)
theorem wp_scope_labels {c : Code} (J : Nat -> Act -> World -> Prop) (m : Nat -> Act -> World -> Nat)
 (pass : ∀ l a w, J l a w -> ∃ rest, findLabel c l = some (.seq .skip rest) /\
  ((∀ l' a' w' rest', findLabel c l' = some (.seq .skip rest') -> J l' a' w' -> m l' a' w' < m l a w -> rest'.wp P (jumps (fun l' a' w' => J l' a' w' /\ m l' a' w' < m l a w) Q) a' w') ->
   rest.wp P (jumps (fun l' a' w' => J l' a' w' /\ m l' a' w' < m l a w) Q) a w))
 (first : (∀ l' a' w' rest', findLabel c l' = some (.seq .skip rest') -> J l' a' w' -> rest'.wp P (jumps J Q) a' w') -> c.wp P (jumps J Q) a w) : (Code.scope c).wp P Q a w := by
 have mono : ∀ {J1 J2 : Nat -> Act -> World -> Prop} {rest : Code} {a w}, (∀ l a w, J1 l a w -> J2 l a w) -> rest.wp P (jumps J1 Q) a w -> rest.wp P (jumps J2 Q) a w := by
  intro J1 J2 rest a w hj h;refine wp_mono h ?_;intro e a w he;cases e with
  | goto l => exact hj l a w he
  | normal => exact he
  | exit id => exact he
  | ret => exact he
  | panic ch => exact he
  | outgrown => exact he
 have all : ∀ n l a w rest, findLabel c l = some (.seq .skip rest) -> m l a w = n -> J l a w -> rest.wp P (jumps (fun l' a' w' => J l' a' w' /\ m l' a' w' < n) Q) a w := by
  intro n
  induction n using Nat.strongRecOn with
  | _ n ih =>
   intro l a w rest hf hn hJ;obtain ⟨rest', hf', hp⟩ := pass l a w hJ;rw [hf] at hf';injection hf' with hf'
   injection hf' with _ hf'
   subst hf';rw [hn] at hp;exact hp (fun l' a' w' rest2 hf2 hJ2 hlt => mono (fun l3 a3 w3 h3 => ⟨h3.1, by omega⟩) (ih _ hlt l' a' w' rest2 hf2 rfl hJ2))
 intro b k cs;have key : ∀ n l a w rest, findLabel c l = some (.seq .skip rest) -> m l a w = n -> J l a w -> ∃ e a' w', Q e a' w' /\ Arrives P (lone (b.at a (.code (.seq .skip rest) :: .inScope c :: k)) cs w) b k cs e a' w' := by
  intro n
  induction n using Nat.strongRecOn with
  | _ n ih =>
   intro l a w rest hf hn hJ;obtain ⟨e, a1, w1, hq, harr⟩ := wp_rest (all n l a w rest hf hn hJ) b (.inScope c :: k) cs;cases e with
   | normal => exact ⟨.normal, a1, w1, hq, Steps.trans harr (.one step_inScope)⟩
   | exit id => exact ⟨.exit id, a1, w1, hq, fun k' hk => harr k' (by simp [exitTo, hk])⟩
   | goto l' =>
    obtain ⟨hJ', hlt⟩ := hq;obtain ⟨rest2, hf2, _⟩ := pass l' a1 w1 hJ';have hg : gotoIn l' (.inScope c :: k) = some (.code (.seq .skip rest2) :: .inScope c :: k) := by simp [gotoIn, hf2]
    obtain ⟨e2, a2, w2, hq2, harr2⟩ := ih _ (by omega) l' a1 w1 rest2 hf2 rfl hJ';exact ⟨e2, a2, w2, hq2, .of_steps (harr _ hg) harr2⟩
   | ret => exact ⟨_, a1, w1, hq, harr⟩
   | panic ch => exact ⟨_, a1, w1, hq, harr⟩
   | outgrown => exact ⟨_, a1, w1, hq, harr⟩
 obtain ⟨e, a1, w1, hq, harr⟩ := first (fun l' a' w' rest' hf hJ => mono (fun _ _ _ h => h.1) (all _ l' a' w' rest' hf rfl hJ)) b (.inScope c :: k) cs;cases e with
 | normal => exact ⟨.normal, a1, w1, hq, .head step_scope (Steps.trans harr (.one step_inScope))⟩
 | exit id => exact ⟨.exit id, a1, w1, hq, fun k' hk => .head step_scope (harr k' (by simp [exitTo, hk]))⟩
 | goto l' =>
  obtain ⟨rest2, hf2, _⟩ := pass l' a1 w1 hq;have hg : gotoIn l' (.inScope c :: k) = some (.code (.seq .skip rest2) :: .inScope c :: k) := by simp [gotoIn, hf2]
  obtain ⟨e2, a2, w2, hq2, harr2⟩ := key _ l' a1 w1 rest2 hf2 rfl hq;exact ⟨e2, a2, w2, hq2, .of_steps (.head step_scope (harr _ hg)) harr2⟩
 | ret => exact ⟨_, a1, w1, hq, .of_steps (.one step_scope) harr⟩
 | panic ch => exact ⟨_, a1, w1, hq, .of_steps (.one step_scope) harr⟩
 | outgrown => exact ⟨_, a1, w1, hq, .of_steps (.one step_scope) harr⟩
end
end Go.Proofs.YtcnfcililiehlaaGreatDoor
namespace Go.Proofs.YtcnfcililiehlaaGreatDoor
open Go.RowKit
def isLB (c : UInt8) : Bool := decide (97 <= c.toNat /\ c.toNat <= 122)
theorem isLB_iff {c : UInt8} : isLB c = true ↔ 97 <= c.toNat /\ c.toNat <= 122 := decide_eq_true_iff
def takenB (l : List UInt8) : Bool := l == [116, 114, 117, 101] || l == [102, 97, 108, 115, 101] || l == [105, 110] || l == [114, 101] || l == [105, 109]
def okB (c : UInt8) : Bool := isLB c || isD c || c == 95
theorem isLetter_any (c : UInt8) (w : World) :
 Calls Tryz.prog 156 #[.int .u8 c.toNat] w fun e w' => e = .returned (.bool (isLB c)) /\ w = w' := by
 by_cases h1 : (97 : Int) <= c.toNat
 ·by_cases h2 : (c.toNat : Int) <= 122
  ·have hL : isLB c = true := decide_eq_true ⟨by omega, by omega⟩;rw [hL]; clear hL
   go_enter Tryz.func156, Tryz.ntmps156
   go_wp2;go_ret;exact ⟨rfl, rfl⟩
  ·have hL : isLB c = false := decide_eq_false (fun h => h2 (by omega));rw [hL]; clear hL
   go_enter Tryz.func156, Tryz.ntmps156
   go_wp2;go_ret;exact ⟨rfl, rfl⟩
 ·have hL : isLB c = false := decide_eq_false (fun h => h1 (by omega));rw [hL]; clear hL
  go_enter Tryz.func156, Tryz.ntmps156
  go_wp2;go_ret;exact ⟨rfl, rfl⟩
theorem isDigit_any (c : UInt8) (w : World) :
 Calls Tryz.prog 148 #[.int .u8 c.toNat] w fun e w' => e = .returned (.bool (isD c)) /\ w = w' := by
 by_cases h1 : (48 : Int) <= c.toNat
 ·by_cases h2 : (c.toNat : Int) <= 57
  ·have hL : isD c = true := decide_eq_true ⟨by omega, by omega⟩;rw [hL]; clear hL
   go_enter Tryz.func148, Tryz.ntmps148
   go_wp2;go_ret;exact ⟨rfl, rfl⟩
  ·have hL : isD c = false := decide_eq_false (fun h => h2 (by omega));rw [hL]; clear hL
   go_enter Tryz.func148, Tryz.ntmps148
   go_wp2;go_ret;exact ⟨rfl, rfl⟩
 ·have hL : isD c = false := decide_eq_false (fun h => h1 (by omega));rw [hL]; clear hL
  go_enter Tryz.func148, Tryz.ntmps148
  go_wp2;go_ret;exact ⟨rfl, rfl⟩
theorem isTaken_any (s : ByteArray) (w : World) :
 Calls Tryz.prog 157 #[.string s] w fun e w' => e = .returned (.bool (takenB s.data.toList)) /\ w = w' := by
 go_enter Tryz.func157, Tryz.ntmps157
 go_wp2
 all_goals go_ret
 all_goals refine ⟨?_, rfl⟩
 all_goals rw [<- Lib.toList_data]
 all_goals simp_all [takenB]
end Go.Proofs.YtcnfcililiehlaaGreatDoor
namespace Go.Proofs.YtcnfcililiehlaaGreatDoor
open Go.RowKit
def nameB (l : List UInt8) : Bool := match l with | [] => false | c :: r => decide (r.length < 12) && isLB c && r.all okB && !takenB l
theorem ret_bool {a b : Bool} (h : a = b) : Ending.returned (.bool a) = .returned (.bool b) := by rw [h]
theorem at_list (s : ByteArray) (k : Nat) (_h : k < s.size) (h' : k < s.data.toList.length) : s.data.toList[k] = s[k] := by simp; rfl
theorem byte_is {c : UInt8} {k : Nat} (hk : k < 256) (h : c = UInt8.ofNat k) : ((c.toNat : Int) == (k : Nat)) = true := by
 rw [h, UInt8.toNat_ofNat', Nat.mod_eq_of_lt (show k < 2 ^ 8 from hk)]; exact beq_self_eq_true _
theorem byte_not {c : UInt8} {k : Nat} (hk : k < 256) (h : c ≠ UInt8.ofNat k) : ((c.toNat : Int) == (k : Nat)) = false := by
 apply beq_eq_false_iff_ne.2;intro e;apply h;apply UInt8.toNat_inj.1;rw [UInt8.toNat_ofNat', Nat.mod_eq_of_lt (show k < 2 ^ 8 from hk)]; omega
theorem nameB_end {l : List UInt8} {c : UInt8} {r : List UInt8} (e : l = c :: r) (h1 : isLB c = true) (h2 : r.length < 12) (h3 : r.all okB = true) : nameB l = !takenB l := by
 subst e; simp [nameB, h1, h2, h3]
theorem nameB_long {l : List UInt8} (h : 12 < l.length) : nameB l = false := by
 cases l with
 | nil => rfl
 | cons c r =>
  have : ¬ r.length < 12 := by simp at h; omega
  simp [nameB, this]
theorem nameB_first {l : List UInt8} (h : ∀ h0 : 0 < l.length, isLB l[0] = false) : nameB l = false := by
 cases l with
 | nil => rfl
 | cons c r =>
  have : isLB c = false := h (by simp);simp [nameB, this]
theorem nameB_bad {l : List UInt8} {k : Nat} (hk : k + 1 < l.length) (h : okB l[k + 1] = false) : nameB l = false := by
 cases l with
 | nil => rfl
 | cons c r =>
  have : r.all okB = false := by
   rw [List.all_eq_false];simp only [List.getElem_cons_succ] at h;simp only [List.length_cons] at hk;exact ⟨r[k]'(by omega), List.getElem_mem _, by rw [h]; decide⟩
  simp [nameB, this]
def Oks (l : List UInt8) (k : Nat) : Prop := ((l.drop 1).take k).all okB = true
theorem Oks.zero (l : List UInt8) : Oks l 0 := by simp [Oks]
theorem Oks.step {l : List UInt8} {k : Nat} (h : Oks l k) (hk : k + 1 < l.length) (ho : okB l[k + 1] = true) : Oks l (k + 1) := by
 unfold Oks at *
 have e : (l.drop 1).take (k + 1) = (l.drop 1).take k ++ [l[k + 1]] := by
  rw [List.take_succ_eq_append_getElem (by simp; omega)];simp
 rw [e, List.all_append, h];simp [ho]
theorem Oks.all {l : List UInt8} {k : Nat} (h : Oks l k) (hk : k + 1 = l.length) : ∃ c r, l = c :: r /\ r.all okB = true := by
 cases l with
 | nil => simp at hk
 | cons c r =>
  refine ⟨c, r, rfl, ?_⟩;unfold Oks at h
  simpa [List.take_of_length_le (show r.length <= k by simp at hk; omega)] using h
def NmAt (s : ByteArray) (k : Nat) (a : Act) : Prop := ∃ u1 u4 u5 u6 u7 u8 u9 u10 u11 u12 u13 u14 u15 u16 u17 u18 u19 u20 u21 u22 u23 u24 u25 u26 u27 u28 u29 u30 u31 u32 u33 u34 u35 u36 u37 u38 u39 u40 u41 u42 : Value,  a = { tmps := #[.string s, u1, .bool false, .int .i64 k, u4, u5, u6, u7, u8, u9, u10, u11, u12, u13, u14, u15, u16, u17, u18, u19, u20, u21, u22, u23, u24, u25, u26, u27, u28, u29, u30, u31, u32, u33, u34, u35, u36, u37, u38, u39, u40, u41, u42], defers := [] }
def kOf (a : Act) (i : Nat) : Nat := match a.tmps.getD i undef with | .int _ n => n.toNat | _ => 0
theorem name_no (s : ByteArray) (w : World) (h : s.data.toList = [] \/ 12 < s.size \/ ∃ h0 : 0 < s.size, isLB s[0] = false) :
 Calls Tryz.prog 114 #[.string s] w fun e w' => e = .returned (.bool false) /\ w = w' := by
 by_cases h1 : s.data.toList = []
 ·have hne : s.toList.isEmpty = true := by rw [Lib.toList_data, h1]; rfl
  clear h h1
  go_enter Tryz.func114, Tryz.ntmps114
  go_wp2
  go_step3
  go_wp2;rw [Exit.noGoto_ret];go_ret;exact ⟨rfl, rfl⟩
 ·have hne : s.toList.isEmpty = false := by
   rw [Lib.toList_data]; simpa using h1
  by_cases h2 : 12 < s.size
  ·clear h h1;have h2' : (12 : Int) < s.size := by omega
   go_enter Tryz.func114, Tryz.ntmps114
   go_wp2
   go_step3
   go_wp2;rw [Exit.noGoto_ret];go_ret;exact ⟨rfl, rfl⟩
  ·obtain ⟨h0, h3⟩ := h.resolve_left h1 |>.resolve_left h2
   clear h h1
   go_enter Tryz.func114, Tryz.ntmps114
   go_wp2
   go_step3
   go_wp2_with (go_at_call 156; refine (isLetter_any _ _).mono ?_; rintro e w' ⟨rfl, rfl⟩)
   rw [Exit.noGoto_ret];go_ret;exact ⟨rfl, rfl⟩
theorem name_go (s : ByteArray) (w : World) (h1 : 0 < s.size) (h2 : ¬ 12 < s.size) (h3 : isLB s[0] = true) :
 Calls Tryz.prog 114 #[.string s] w fun e w' => e = .returned (.bool (nameB s.data.toList)) /\ w = w' := by
 have hl : s.data.toList.length = s.size := (Lib.size_eq s).symm;have hne : s.toList.isEmpty = false := by
  rw [Lib.toList_data];cases h : s.data.toList with
  | nil => rw [h] at hl; simp at hl; omega
  | cons a r => rfl
 have hend : ∀ k, Oks s.data.toList k -> k + 1 = s.size -> nameB s.data.toList = !takenB s.data.toList := by
  intro k ho hk;obtain ⟨c, r, e, hr⟩ := ho.all (by omega);have h0 : isLB s.data.toList[0] = true := by rw [at_list s 0 h1]; exact h3
  refine nameB_end e ?_ ?_ hr
  ·simp only [e, List.getElem_cons_zero] at h0; exact h0
  ·rw [e] at hl; simp at hl; omega
 have hbad : ∀ k (hk : k + 1 < s.size), okB s[k + 1] = false -> nameB s.data.toList = false := by
  intro k hk ho;exact nameB_bad (k := k) (by omega) (by rw [at_list s _ hk]; exact ho)
 have hstep : ∀ k (hk : k + 1 < s.size), okB s[k + 1] = true -> Oks s.data.toList k -> Oks s.data.toList (k + 1) := by
  intro k hk ho h;exact h.step (by omega) (by rw [at_list s _ hk]; exact ho)
 have HE := Lib.hid hend; have HB := Lib.hid hbad; have HS := Lib.hid hstep;clear hend hbad hstep hl
 go_enter Tryz.func114, Tryz.ntmps114
 go_wp2;refine wp_scope_labels (fun l a w' => w = w' /\ l = 0 /\ ∃ k, k < s.size /\ Oks s.data.toList k /\ NmAt s k a) (fun _ a _ => s.size - kOf a 3) ?_ ?_
 ·rintro l a w' ⟨rfl, rfl, k, hk, HO, u1, u4, u5, u6, u7, u8, u9, u10, u11, u12, u13, u14, u15, u16, u17, u18, u19, u20, u21, u22, u23, u24, u25, u26, u27, u28, u29, u30, u31, u32, u33, u34, u35, u36, u37, u38, u39, u40, u41, u42, rfl⟩;refine ⟨_, rfl, ?_⟩;intro H;clear H;by_cases he : k + 1 = s.size
  ·have he' : (k : Int) + 1 = s.size := by omega
   have HR := Lib.hid (HE.out k HO he);clear he
   go_wp2_with (go_at_call 157; refine (isTaken_any _ _).mono ?_; rintro e w' ⟨rfl, rfl⟩)
   go_ret;exact ⟨ret_bool HR.out.symm, rfl⟩
  ·have hlt : k + 1 < s.size := by omega
   have he' : ¬ ((k : Int) + 1 = s.size) := by omega
   clear he;cases hok : okB s[k + 1]
   ·have HR := Lib.hid (HB.out k hlt hok);unfold okB at hok;simp only [Bool.or_eq_false_iff] at hok;obtain ⟨⟨hb1, hb2⟩, hb3⟩ := hok;have hb4 : ((s[k + 1].toNat : Int) == 95) = false := by
     apply beq_eq_false_iff_ne.2;intro e;apply (beq_eq_false_iff_ne.1 hb3);apply UInt8.toNat_inj.1;show _ = 95;omega
    clear hb3
    go_wp2_with (first | (go_at_call 156; refine (isLetter_any _ _).mono ?_; rintro e w' ⟨rfl, rfl⟩) | (go_at_call 148; refine (isDigit_any _ _).mono ?_; rintro e w' ⟨rfl, rfl⟩))
    go_ret;exact ⟨ret_bool HR.out.symm, rfl⟩
   ·have HR := Lib.hid (HS.out k hlt hok HO);have h3 : isLB s[k + 1] = true \/ (isLB s[k + 1] = false /\ isD s[k + 1] = true) \/ (isLB s[k + 1] = false /\ isD s[k + 1] = false /\ ((s[k + 1].toNat : Int) == 95) = true) := by
     unfold okB at hok;cases hb1 : isLB s[k + 1]
     ·cases hb2 : isD s[k + 1]
      ·rw [hb1, hb2] at hok;have := beq_iff_eq.1 hok;exact Or.inr (Or.inr ⟨rfl, rfl, by rw [this]; rfl⟩)
      ·exact Or.inr (Or.inl ⟨rfl, rfl⟩)
     ·exact Or.inl rfl
    clear hok;rcases h3 with hb1 | ⟨hb1, hb2⟩ | ⟨hb1, hb2, hb3⟩
    all_goals
     go_wp2_with (first | (go_at_call 156; refine (isLetter_any _ _).mono ?_; rintro e w' ⟨rfl, rfl⟩) | (go_at_call 148; refine (isDigit_any _ _).mono ?_; rintro e w' ⟨rfl, rfl⟩))
     go_step3
     refine ⟨⟨rfl, rfl, k + 1, hlt, HR.out, _, _, _, _, _, _, _, _, _, _, _, _, _, _, _, _, _, _, _, _, _, _, _, _, _, _, _, _, _, _, _, _, _, _, _, _, _, _, _, _, rfl⟩, ?_⟩;simp [kOf]; omega
 ·intro H;have HH := Lib.hid H; clear H
  go_wp2_with (go_at_call 156; refine (isLetter_any _ _).mono ?_; rintro e w' ⟨rfl, rfl⟩)
  go_step3
  refine walk_on (by assumption) (HH.out 0 _ _ _ rfl ⟨rfl, rfl, 0, h1, Oks.zero _, _, _, _, _, _, _, _, _, _, _, _, _, _, _, _, _, _, _, _, _, _, _, _, _, _, _, _, _, _, _, _, _, _, _, _, _, _, _, _, _, rfl⟩)
end Go.Proofs.YtcnfcililiehlaaGreatDoor
namespace Go.Proofs.YtcnfcililiehlaaGreatDoor
open Go.Lib
def fOf (l : List UInt8) : Nat := if l.head? = some 45 then 1 else 0
def okN (l : List UInt8) : Bool := !(l.drop (fOf l)).isEmpty && (l.drop (fOf l)).all isD && !((l.drop (fOf l)).head? == some 48 && decide (1 < l.length))
def valN (l : List UInt8) : Nat := valD 0 (l.drop (fOf l))
def numP (l : List UInt8) : Int × Int :=
 if okN l = true then (if 1099511627776 < valN l then (0, 5) else (if l.head? = some 45 then -(valN l : Int) else valN l, 0)) else (0, 1)
end Go.Proofs.YtcnfcililiehlaaGreatDoor
namespace Go.Proofs.YtcnfcililiehlaaGreatDoor
open Go.RowKit
def intOf : Value -> Int | .int _ q => q | _ => 0
end Go.Proofs.YtcnfcililiehlaaGreatDoor
namespace Go.Proofs.YtcnfcililiehlaaGreatDoor
open Go.RowKit
theorem refName_no (s : ByteArray) (w : World) (h : s.size < 1 \/ 12 < s.size \/ takenB s.data.toList = true) :
 Calls Tryz.prog 53 #[.string s] w fun e w' => e = .returned (.bool false) /\ w = w' := by
 by_cases h1 : s.size < 1
 ·have h1' : (s.size : Int) < 1 := by omega
  clear h h1
  go_enter Tryz.func53, Tryz.ntmps53
  go_wp2;go_ret;exact ⟨rfl, rfl⟩
 ·by_cases h2 : 12 < s.size
  ·have h2' : (12 : Int) < s.size := by omega
   clear h h2
   go_enter Tryz.func53, Tryz.ntmps53
   go_wp2;go_ret;exact ⟨rfl, rfl⟩
  ·have h3 := h.resolve_left h1 |>.resolve_left h2
   clear h;unfold takenB at h3;simp only [Bool.or_eq_true, beq_iff_eq] at h3;rcases h3 with (((h3 | h3) | h3) | h3) | h3
   all_goals
    have e : s = ⟨s.data.toList.toArray⟩ := by apply ByteArray.ext; simp
    rw [h3] at e;clear h3 h1 h2;subst e
    go_enter Tryz.func53, Tryz.ntmps53
    go_wp2;go_ret;exact ⟨rfl, rfl⟩
def Pn (l : List UInt8) (j : Nat) : Prop := j = 0 \/ ((∃ h : 0 < l.length, isLB l[0] = true) /\ Oks l (j - 1))
theorem Pn.first {l : List UInt8} (h : 0 < l.length) (hc : isLB l[0] = true) : Pn l (0 + 1) := Or.inr ⟨⟨h, hc⟩, Oks.zero _⟩
theorem Pn.step {l : List UInt8} {j : Nat} (h : Pn l j) (h0 : 0 < j) (hj : j < l.length) (hc : okB l[j] = true) : Pn l (j + 1) := by
 rcases h with h | ⟨h1, h2⟩
 ·omega
 ·refine Or.inr ⟨h1, ?_⟩;obtain ⟨k, rfl⟩ : ∃ k, j = k + 1 := ⟨j - 1, by omega⟩
  exact h2.step hj hc
theorem Pn.stop {l : List UInt8} {j : Nat} (h : Pn l j) (hj : j = l.length) (h0 : 0 < j) (h12 : j <= 12) (ht : takenB l = false) : nameB l = true := by
 rcases h with h | ⟨⟨h1, h2⟩, h3⟩
 ·omega
 ·obtain ⟨c, r, e, hr⟩ := h3.all (by omega);have hc : isLB c = true := by simp only [e, List.getElem_cons_zero] at h2; exact h2
  rw [nameB_end e hc (by rw [e] at hj; simp at hj; omega) hr, ht]; rfl
theorem Pn.bad {l : List UInt8} {j : Nat} (hj : j < l.length) (hc : okB l[j] = false) (h0 : 0 < j) : nameB l = false := by
 obtain ⟨k, rfl⟩ : ∃ k, j = k + 1 := ⟨j - 1, by omega⟩
 exact nameB_bad hj hc
theorem Pn.bad0 {l : List UInt8} (hj : 0 < l.length) (hc : isLB l[0] = false) : nameB l = false := nameB_first (fun _ => hc)
theorem okB_letter {c : UInt8} (h : isLB c = true) : okB c = true := by simp [okB, h]
set_option maxHeartbeats 1600000 in
theorem refName_go (s : ByteArray) (w : World) (h1 : ¬ s.size < 1) (h2 : ¬ 12 < s.size) (ht : takenB s.data.toList = false) :
 Calls Tryz.prog 53 #[.string s] w fun e w' => e = .returned (.bool (nameB s.data.toList)) /\ w = w' := by
 have hl : s.data.toList.length = s.size := (Lib.size_eq s).symm;have h1d : decide ((s.size : Int) < 1) = false := decide_eq_false (by omega);have h2d : decide ((12 : Int) < s.size) = false := decide_eq_false (by omega);have HT := Lib.hid ht;unfold takenB at ht;simp only [Bool.or_eq_false_iff] at ht;obtain ⟨⟨⟨⟨h3, h4⟩, h5⟩, h6⟩, h7⟩ := ht;rw [<- Lib.toList_data] at h3 h4 h5 h6 h7
 go_enter Tryz.func53, Tryz.ntmps53
 go_wp2
 go_loop [2, 3, 4, 5] (fun x2 i _ _ => x2 = .bool false /\ ∃ j : Nat, Pn s.data.toList j /\ j <= s.size /\ i = .int .i64 j) (fun _ i _ _ => s.size - (intOf i).toNat)
 case atStart => exact ⟨rfl, 0, Or.inl rfl, by omega, rfl⟩
 case round =>
  obtain ⟨rfl, j, hp, hj, rfl⟩ := hrel;by_cases hlt : j < s.size
  ·have hge : s.data.toList[j]'(by omega) = s[j] := at_list s j hlt _;cases hc : isLB s[j]
   ·have hn : (s[j].toNat : Int) < 97 \/ (97 <= (s[j].toNat : Int) /\ decide ((s[j].toNat : Int) <= 122) = false) := by
     have : ¬ (97 <= s[j].toNat /\ s[j].toNat <= 122) := of_decide_eq_false hc;rw [decide_eq_false_iff_not];omega
    by_cases h0 : j = 0
    ·have hf : nameB s.data.toList = false := by
      subst h0;exact Pn.bad0 (by omega) (by rw [hge]; exact hc)
     have h0' : ((j : Int) == 0) = true := beq_iff_eq.2 (by omega);clear h0;have HF := Lib.hid hf; clear hf hge hc;rcases hn with hn | ⟨hn, hn'⟩
     all_goals
      go_wp2
      all_goals first
       | (go_ret; exact ⟨ret_bool HF.out.symm, rfl⟩)
       | (exfalso; omega)
    ·have h0' : ((j : Int) == 0) = false := beq_eq_false_iff_ne.2 (by omega);cases hok : okB s[j]
     ·have hf : nameB s.data.toList = false := Pn.bad (j := j) (by omega) (by rw [hge]; exact hok) (by omega);have hd : (s[j].toNat : Int) < 48 \/ (48 <= (s[j].toNat : Int) /\ decide ((s[j].toNat : Int) <= 57) = false) := by
       rw [decide_eq_false_iff_not];unfold okB at hok;simp only [Bool.or_eq_false_iff] at hok;have : ¬ (48 <= s[j].toNat /\ s[j].toNat <= 57) := of_decide_eq_false hok.1.2;omega
      have h95 : ((s[j].toNat : Int) == 95) = false := by
       unfold okB at hok;simp only [Bool.or_eq_false_iff] at hok;exact byte_not (k := 95) (by decide) (beq_eq_false_iff_ne.1 hok.2)
      have HF := Lib.hid hf; clear hf hge hc hok;rcases hn with hn | ⟨hn, hn'⟩
      all_goals
       rcases hd with hd | ⟨hd, hd'⟩
       all_goals
        go_wp2
        all_goals first
         | (go_ret; exact ⟨ret_bool HF.out.symm, rfl⟩)
         | (exfalso; omega)
     ·have hs : Pn s.data.toList (j + 1) := hp.step (by omega) (by omega) (by rw [hge]; exact hok);have hd : (48 <= (s[j].toNat : Int) /\ (s[j].toNat : Int) <= 57) \/ ((s[j].toNat : Int) == 95) = true := by
       unfold okB at hok;rw [hc, Bool.false_or, Bool.or_eq_true] at hok;rcases hok with h | h
       ·have := isD_iff.1 h;exact Or.inl (by omega)
       ·exact Or.inr (byte_is (k := 95) (by decide) (beq_iff_eq.1 h))
      clear hge hc hok hp;rcases hn with hn | ⟨hn, hn'⟩
      all_goals
       rcases hd with ⟨hd, hd'⟩ | hd
       all_goals
        go_wp2
        all_goals
         go_round
         case rel => exact ⟨rfl, j + 1, hs, by omega, rfl⟩
         case measure => simp [intOf]; omega
   ·have hs : Pn s.data.toList (j + 1) := by
     by_cases h0 : j = 0
     ·subst h0; exact Pn.first (by omega) (by rw [hge]; exact hc)
     ·exact hp.step (by omega) (by omega) (by rw [hge]; exact okB_letter hc)
    have hb := isLB_iff.1 hc;have hb1 : (97 : Int) <= s[j].toNat := by omega
    have hb2 : (s[j].toNat : Int) <= 122 := by omega
    clear hge hc hp hb;go_wp2
    all_goals
     go_round
     case rel => exact ⟨rfl, j + 1, hs, by omega, rfl⟩
     case measure => simp [intOf]; omega
  ·have hf : nameB s.data.toList = true := hp.stop (by omega) (by omega) (by omega) HT.out;have HF := Lib.hid hf; clear hf;go_wp2;go_ret;exact ⟨ret_bool HF.out.symm, rfl⟩
theorem takenB_nameB {l : List UInt8} (h : takenB l = true) : nameB l = false := by
 cases l with
 | nil => rfl
 | cons c r => simp [nameB, h]
theorem refName_any (s : ByteArray) (w : World) :
 Calls Tryz.prog 53 #[.string s] w fun e w' => e = .returned (.bool (nameB s.data.toList)) /\ w = w' := by
 have hl : s.data.toList.length = s.size := (Lib.size_eq s).symm;by_cases h1 : s.size < 1
 ·have e : nameB s.data.toList = false := by rw [List.eq_nil_of_length_eq_zero (by omega : s.data.toList.length = 0)]; rfl
  rw [e]; exact refName_no s w (Or.inl h1)
 ·by_cases h2 : 12 < s.size
  ·rw [nameB_long (by omega)]; exact refName_no s w (Or.inr (Or.inl h2))
  ·cases h3 : takenB s.data.toList
   ·exact refName_go s w h1 h2 h3
   ·rw [takenB_nameB h3]; exact refName_no s w (Or.inr (Or.inr h3))
theorem name_any (s : ByteArray) (w : World) :
 Calls Tryz.prog 114 #[.string s] w fun e w' => e = .returned (.bool (nameB s.data.toList)) /\ w = w' := by
 have hl : s.data.toList.length = s.size := (Lib.size_eq s).symm;by_cases h1 : 0 < s.size
 ·by_cases h2 : 12 < s.size
  ·rw [nameB_long (by omega)]; exact name_no s w (Or.inr (Or.inl h2))
  ·cases h3 : isLB s[0]
   ·rw [nameB_first (fun h0 => by rw [at_list s 0 h1]; exact h3)]; exact name_no s w (Or.inr (Or.inr ⟨h1, h3⟩))
   ·exact name_go s w h1 h2 h3
 ·have e : s.data.toList = [] := List.eq_nil_of_length_eq_zero (by omega);rw [e]; exact name_no s w (Or.inl e)
end Go.Proofs.YtcnfcililiehlaaGreatDoor
namespace Go.Proofs.YtcnfcililiehlaaGreatDoor
structure CM where
 op : Int
 a : Int
 nm : List UInt8
instance : DecidableEq CM := fun x y => decidable_of_iff (x.op = y.op /\ x.a = y.a /\ x.nm = y.nm) (by cases x; cases y; simp)
def opC (o : Int) : CM := ⟨o, 0, []⟩
def nx (s : List UInt8) (p : Nat) : UInt8 := (s[p]?).getD 0
def wordP (s : List UInt8) (p : Nat) : List UInt8 := (s.drop p).takeWhile okB
def numT (s : List UInt8) (p : Nat) : List UInt8 := if nx s p = 48 then [48] else (s.drop p).takeWhile isD
def opOf (c d : UInt8) : Int × Nat × Nat :=
 if c = 43 then (11, 1, 4) else if c = 45 then (12, 1, 4) else if c = 42 then (13, 1, 5) else if c = 47 then (14, 1, 5) else if c = 37 then (15, 1, 5)
 else if c = 61 then (16, 1, 3) else if c = 33 then (if d = 61 then (17, 2, 3) else (0, 0, 0)) else if c = 60 then (if d = 61 then (19, 2, 3) else (18, 1, 3))
 else if c = 62 then (if d = 61 then (21, 2, 3) else (20, 1, 3)) else if c = 38 then (22, 1, 2) else if c = 124 then (23, 1, 1) else (0, 0, 0)
def opAt (s : List UInt8) (p : Nat) : Int × Nat × Nat := opOf (nx s p) (nx s (p + 1))
abbrev Rs := Bool × Nat × List CM
def closeD (s : List UInt8) (r : Rs) : Rs := if r.1 = true then (if nx s r.2.1 = 41 then (true, r.2.1 + 1, r.2.2) else (false, r.2.1, r.2.2)) else r
def addD (o : Int) (r : Rs) : Rs := if r.1 = true then (true, r.2.1, r.2.2 ++ [opC o]) else r
def stateD (s : List UInt8) (p : Nat) (cs : List CM) : Rs :=
 if nameB (wordP s (p + 3)) = true then
  closeD s (true, p + 3 + (wordP s (p + 3)).length, cs ++ [⟨6, 0, wordP s (p + 3)⟩])
 else (false, p + 3, cs)
def numD (s : List UInt8) (p : Nat) (cs : List CM) : Rs :=
 if (numP (numT s p)).2 ≠ 0 then (false, p, cs)
 else if nx s (p + (numT s p).length) = 105 then
  (if (numP (numT s p)).1 <= 1048576 then (true, p + (numT s p).length + 1, cs ++ [⟨2, (numP (numT s p)).1, []⟩]) else (false, p, cs))
 else (true, p + (numT s p).length, cs ++ [⟨1, (numP (numT s p)).1, []⟩])
inductive Q where
 | joins (k : Nat)
 | loop (k : Nat) (cmp : Bool)
 | ahead
def wTrue : List UInt8 := [116, 114, 117, 101]
def wFalse : List UInt8 := [102, 97, 108, 115, 101]
def wIn : List UInt8 := [105, 110]
def wRe : List UInt8 := [114, 101]
def wIm : List UInt8 := [105, 109]
def wordD (s : List UInt8) (p : Nat) (cs : List CM) (w : List UInt8) (inner : Rs) : Rs :=
 if w = wTrue then (true, p + 4, cs ++ [opC 3])
 else if w = wFalse then (true, p + 5, cs ++ [opC 4])
 else if nameB w = true then (true, p + w.length, cs ++ [⟨5, 0, w⟩])
 else if nx s (p + w.length) ≠ 40 then (false, p, cs)
 else if w = wIn then stateD s p cs
 else if w = wRe then addD 9 (closeD s inner)
 else if w = wIm then addD 10 (closeD s inner)
 else (false, p, cs)
def D (s : List UInt8) : Nat -> Q -> Nat -> List CM -> Rs
 | 0, _, _, cs => (false, s.length, cs)
 | n + 1, .joins k, p, cs =>
  if k = 6 then D s n .ahead p cs
  else if (D s n (.joins (k + 1)) p cs).1 = true then D s n (.loop k false) (D s n (.joins (k + 1)) p cs).2.1 (D s n (.joins (k + 1)) p cs).2.2
  else D s n (.joins (k + 1)) p cs
 | n + 1, .loop k cmp, p, cs =>
  if (opAt s p).2.2 ≠ k then (true, p, cs)
  else if cmp = true then (false, p, cs)
  else if (D s n (.joins (k + 1)) (p + (opAt s p).2.1) cs).1 = true then
   D s n (.loop k (k == 3)) (D s n (.joins (k + 1)) (p + (opAt s p).2.1) cs).2.1 ((D s n (.joins (k + 1)) (p + (opAt s p).2.1) cs).2.2 ++ [opC (opAt s p).1])
  else D s n (.joins (k + 1)) (p + (opAt s p).2.1) cs
 | n + 1, .ahead, p, cs =>
  if nx s p = 45 then addD 7 (D s n .ahead (p + 1) cs)
  else if nx s p = 33 then addD 8 (D s n .ahead (p + 1) cs)
  else if nx s p = 40 then closeD s (D s n (.joins 1) (p + 1) cs)
  else if isD (nx s p) = true then numD s p cs
  else wordD s p cs (wordP s p) (D s n (.joins 1) (p + 3) cs)
def parseP (s : List UInt8) : List CM × Nat × Int :=
 if 600 < s.length then ([], 0, 4)
 else if (D s (s.length * 10 + 8) (.joins 1) 0 []).1 = false \/ (D s (s.length * 10 + 8) (.joins 1) 0 []).2.1 < s.length then ([], (D s (s.length * 10 + 8) (.joins 1) 0 []).2.1, 1)
 else if 32 < (D s (s.length * 10 + 8) (.joins 1) 0 []).2.2.length then ([], 0, 4)
 else ((D s (s.length * 10 + 8) (.joins 1) 0 []).2.2, 0, 0)
end Go.Proofs.YtcnfcililiehlaaGreatDoor
namespace Go.Proofs.YtcnfcililiehlaaGreatDoor
open Go.RowKit
def bstr (l : List UInt8) : Value := .string ⟨l.toArray⟩
theorem bstr_of (s : ByteArray) : bstr s.data.toList = .string s := rfl
def cellV (c : CM) : List Value := [.int .i64 c.op, .int .i64 c.a, bstr c.nm]
def flat (cs : List CM) : List Value := cs.flatMap cellV
theorem flat_at {cs : List CM} {i : Nat} (h : i < cs.length) : (flat cs)[i * 3]? = some (.int .i64 cs[i].op) /\ (flat cs)[i * 3 + 1]? = some (.int .i64 cs[i].a) /\ (flat cs)[i * 3 + 2]? = some (bstr cs[i].nm) := by
 induction cs generalizing i with
 | nil => simp at h
 | cons c r ih =>
  have e : flat (c :: r) = .int .i64 c.op :: .int .i64 c.a :: bstr c.nm :: flat r := rfl;rw [e];cases i with
  | zero => exact ⟨rfl, rfl, rfl⟩
  | succ j =>
   have := ih (i := j) (by simpa using h);have h1 : (j + 1) * 3 = j * 3 + 3 := by omega
   rw [h1];exact this
section
variable {w0 wa w w1 w2 : World} {g : Nat} {s : ByteArray} {p p' : Nat} {cs cs' : List CM}
theorem grown_of_below {w w' : World} (h : Below w.heap.size w w') (row : Option Nat) : w.grownBy w' row := ⟨h.os, h.tape, h.output, h.size, fun k hk _ => h.block k hk⟩
theorem own_below {base : Nat} {e : TypeId} {size n : Nat} {v : Value} {xs : List Value} (h : w.ownsRow base e size v n xs) (hb : Below w.heap.size w w1) : w1.ownsRow base e size v n xs :=
 h.kept (grown_of_below hb none) (by cases hv : v.ownBlock with
  | none => exact Or.inl rfl
  | some k => exact Or.inr (by simp))
end
end Go.Proofs.YtcnfcililiehlaaGreatDoor
namespace Go.Proofs
open Go.Shelf
def Tryz.laysM316_ren : Go.Shelf.Ren := ⟨fun | 316 => 163 | n => n, fun | 9 => 9 | 3 => 3 | 4 => 4 | 37 => 37 | 0 => 0 | 127 => 200 | 5 => 5 | n => n, fun | n => n⟩
theorem Tryz.laysM316 : Go.Proofs.LaysM.n316 Tryz.prog Tryz.laysM316_ren := {
 mixed := by kernel_rfl
 f316 := Tryz.func163.trans (congrArg some (by kernel_rfl))
 t0 := Tryz.underlying0
 a0 := Tryz.isAgg0
 z0 := Tryz.sizeOf0
 v0 := Tryz.zeroValue0
 t3 := Tryz.underlying3
 a3 := Tryz.isAgg3
 z3 := Tryz.sizeOf3
 v3 := Tryz.zeroValue3
 t4 := Tryz.underlying4
 a4 := Tryz.isAgg4
 z4 := Tryz.sizeOf4
 v4 := Tryz.zeroValue4
 t9 := Tryz.underlying9
 a9 := Tryz.isAgg9
 z9 := Tryz.sizeOf9
 v9 := Tryz.zeroValue9
 t37 := Tryz.underlying37
 a37 := Tryz.isAgg37
 z37 := Tryz.sizeOf37
 v37 := Tryz.zeroValue37
 t127 := Tryz.underlying200
 a127 := Tryz.isAgg200
 z127 := Tryz.sizeOf200
 v127 := Tryz.zeroValue200
 t5 := Tryz.underlying5
 a5 := Tryz.isAgg5
 z5 := Tryz.sizeOf5
 v5 := Tryz.zeroValue5
 i0 := by kernel_rfl
 i3 := by kernel_rfl
 i4 := by kernel_rfl
 i5 := by kernel_rfl
 i9 := by kernel_rfl
 i37 := by kernel_rfl
 i127 := by kernel_rfl }
open Go.RowKit in
theorem Tryz.stringslite_Clone (s : ByteArray) (w : World) (hlim : s.size <= 281474976710656) :
 Calls Tryz.prog 163 #[.string s] w fun e w' => e = .returned (.string s) /\ Below w.heap.size w w' := Any.stringslite_Clone Tryz.laysM316 s w hlim
def Tryz.lays101_ren : Go.Shelf.Ren := ⟨fun | 101 => 154 | 208 => 192 | 206 => 224 | n => n, fun | 9 => 9 | 4 => 4 | 3 => 3 | n => n, fun | n => n⟩
theorem Tryz.lays101 : Go.Proofs.Lays.n101 Tryz.prog Tryz.lays101_ren := {
 mixed := by kernel_rfl
 f101 := Tryz.func154.trans (congrArg some (by kernel_rfl))
 f206 := Tryz.func224.trans (congrArg some (by kernel_rfl))
 f208 := Tryz.func192.trans (congrArg some (by kernel_rfl))
 t3 := Tryz.underlying3
 a3 := Tryz.isAgg3
 z3 := Tryz.sizeOf3
 v3 := Tryz.zeroValue3
 t4 := Tryz.underlying4
 a4 := Tryz.isAgg4
 z4 := Tryz.sizeOf4
 v4 := Tryz.zeroValue4
 t9 := Tryz.underlying9
 a9 := Tryz.isAgg9
 z9 := Tryz.sizeOf9
 v9 := Tryz.zeroValue9 }
open Go.RowKit Go.Lib in
theorem Tryz.strings_TrimPrefix (s p : ByteArray) (w : World) :
 Calls Tryz.prog 154 #[.string s, .string p] w fun e w' => e = .returned (.string ⟨(Lib.trimPrefix s.data.toList p.data.toList).toArray⟩) /\ w' = w := Any.strings_TrimPrefix Tryz.lays101 s p w
end Go.Proofs
namespace Go.Proofs.YtcnfcililiehlaaGreatDoor
open Go.RowKit
theorem wp_region_tail {P : Program} {id : Nat} {Q : Exit -> Act -> World -> Prop} {a : Act} {w : World} {l : List Oper} (n : Nat) (hm : P.follows .mixedOrders = true) (hB : Region.lexTailB .any l.toArray n = true)
 (h : wpStill P l.toArray w.drew (fun a' => wpList P l.toArray Q (l.drop n) a' w.drew) (l.take n) a) : (Code.region id l.toArray true).wp P Q a w := wp_region_still_tail n hm hB h
end Go.Proofs.YtcnfcililiehlaaGreatDoor
namespace Go.Proofs.YtcnfcililiehlaaGreatDoor
open Go.RowKit
def tabOps : List (Int × List UInt8 × Int) :=
 [(11, [43], 4), (12, [45], 4), (13, [42], 5), (14, [47], 5), (15, [37], 5), (16, [61], 3), (17, [33, 61], 3), (18, [60], 3), (19, [60, 61], 3), (20, [62], 3), (21, [62, 61], 3), (22, [38], 2), (23, [124], 1)]
def opRow (o : Int × List UInt8 × Int) : List Value := [.int .i64 o.1, .string ⟨o.2.1.toArray⟩, .int .i64 o.2.2]
def opsCells : Array Value := (tabOps.flatMap opRow).toArray
def Ops (w : World) : Prop := w.var? Tryz.prog "quintain/expr.operators" = some opsCells
theorem gOps : Tryz.prog.globalNamed "quintain/expr.operators" = some 1 := by kernel_rfl
theorem Ops.at_ {w : World} (h : Ops w) : ∃ t fr, w.heap[1]? = some (.cells opsCells t fr) := by
 unfold Ops World.var? at h;simp only [gOps, Option.bind_some] at h;split at h
 ·rename_i cs t fr hh
  injection h with h
  subst h;exact ⟨_, _, hh⟩
 ·cases h
theorem Ops.lt {w : World} (h : Ops w) : 1 < w.heap.size := by
 obtain ⟨t, fr, hh⟩ := h.at_;exact lt_of_block hh
theorem Ops.same {w w' : World} (h : Ops w) (hb : w'.heap[1]? = w.heap[1]?) : Ops w' := by
 unfold Ops World.var? at h ⊢;simp only [gOps, Option.bind_some] at h ⊢;rw [hb]; exact h
theorem Ops.below {w w' : World} (h : Ops w) (hb : Below w.heap.size w w') : Ops w' := h.same (hb.block _ h.lt)
def tabAt (k : Nat) : Int × List UInt8 × Int := tabOps.getD k (0, [], 0)
end Go.Proofs.YtcnfcililiehlaaGreatDoor
namespace Go.Proofs.YtcnfcililiehlaaGreatDoor
open Go.RowKit
def Laid (w : World) : Prop := Lib.TabIs Tryz.prog w "internal/strconv.uint64pow10" .u64 Lib.pow10Tab
theorem gTab : Tryz.prog.globalNamed "internal/strconv.uint64pow10" = some 4 := by kernel_rfl
theorem var_lt {w : World} {n : String} {g : Nat} {cs : Array Value} (hg : Tryz.prog.globalNamed n = some g) (h : w.var? Tryz.prog n = some cs) : g < w.heap.size := by
 unfold World.var? at h;simp only [hg, Option.bind_some] at h;rcases Nat.lt_or_ge g w.heap.size with h' | h'
 ·exact h'
 ·rw [Array.getElem?_eq_none h'] at h; cases h
theorem Laid.below {w w' : World} (h : Laid w) (hb : Below w.heap.size w w') : Laid w' := var?_below hb gTab (var_lt gTab h) h
end Go.Proofs.YtcnfcililiehlaaGreatDoor
