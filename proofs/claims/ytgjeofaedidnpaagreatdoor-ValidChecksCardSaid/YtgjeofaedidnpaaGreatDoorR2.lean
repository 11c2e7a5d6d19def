/- Own texts, joined: Sp, Jm, Nm, N2, Nb, N4, N5, Ea. -/
import Derived.Test.YtgjeofaedidnpaaGreatDoorR1
import Derived.Scope
import Derived.ScopeJumps
import Derived.WalkMore
import Derived.Test.YtgjeofaedidnpaaGreatDoorProg
import Derived.WalkKit
import Derived.WalkSpells
import Derived.WalkLawsBesides
import Derived.Lib.Hide
namespace Go.Proofs.YtgjeofaedidnpaaGreatDoor
open Go.Lib
def isSB (c : UInt8) : Bool := decide (33 <= c.toNat /\ c.toNat <= 126)
theorem isSB_blank : isSB 32 = false := by decide
def glue (p : List UInt8) : List (List UInt8) -> List (List UInt8)
 | [] => [p]
 | q :: r => (p ++ q) :: r
def pieces : List UInt8 -> List (List UInt8)
 | [] => [[]]
 | c :: r => if c = 32 then [] :: pieces r else glue [c] (pieces r)
theorem pieces_nil : pieces [] = [[]] := rfl
theorem pieces_blank (r : List UInt8) : pieces (32 :: r) = [] :: pieces r := by simp [pieces]
theorem pieces_cons {c : UInt8} (h : c ≠ 32) (r : List UInt8) : pieces (c :: r) = glue [c] (pieces r) := by simp [pieces, h]
theorem pieces_ne (l : List UInt8) : pieces l ≠ [] := by
 cases l with
 | nil => simp [pieces]
 | cons c r =>
  unfold pieces; split
  ·simp
  ·unfold glue; split <;> simp
theorem glue_glue (p q : List UInt8) (X : List (List UInt8)) : glue p (glue q X) = glue (p ++ q) X := by
 cases X with
 | nil => rfl
 | cons a r => simp [glue]
theorem glue_blank (p : List UInt8) (X : List (List UInt8)) : glue p ([] :: X) = p :: X := by simp [glue]
def goodW (w : List UInt8) : Bool := !w.isEmpty && w.all isSB
def depthL : List UInt8 -> Nat
 | [] => 0
 | c :: r => if c = 32 then depthL r + 1 else 0
def lineW (l : List UInt8) : List (List UInt8) := pieces (l.drop (depthL l))
def lineB (l : List UInt8) : Bool := (lineW l).all goodW
def Blanks (l : List UInt8) (k : Nat) : Prop := k <= l.length /\ depthL l = k + depthL (l.drop k)
theorem Blanks.zero (l : List UInt8) : Blanks l 0 := ⟨Nat.zero_le _, by simp⟩
theorem Blanks.step {l : List UInt8} {k : Nat} (h : Blanks l k) (hk : k < l.length) (hc : l[k] = 32) : Blanks l (k + 1) := by
 refine ⟨hk, ?_⟩;rw [h.2, List.drop_eq_getElem_cons hk, hc];simp only [depthL, if_true]; omega
theorem Blanks.stop {l : List UInt8} {k : Nat} (h : Blanks l k) (hs : k = l.length \/ ∃ hk : k < l.length, l[k] ≠ 32) : depthL l = k := by
 rw [h.2];rcases hs with hs | ⟨hk, hc⟩
 ·rw [List.drop_of_length_le (by omega)]; rfl
 ·rw [List.drop_eq_getElem_cons hk]; simp only [depthL, if_neg hc]; rfl
structure First (l : List UInt8) (xs : List (List UInt8)) (k : Nat) : Prop where
 eq : lineW l = xs ++ pieces (l.drop k)
 good : xs.all goodW = true
 len : k <= l.length
 few : xs.length <= k
structure Word (l : List UInt8) (xs : List (List UInt8)) (b k : Nat) : Prop where
 eq : lineW l = xs ++ glue ((l.drop b).take (k + 1 - b)) (pieces (l.drop (k + 1)))
 good : xs.all goodW = true
 lt : k < l.length
 le : b <= k
 word : goodW ((l.drop b).take (k + 1 - b)) = true
 few : xs.length <= b
theorem First.start {l : List UInt8} {k : Nat} (h : depthL l = k) (hk : k <= l.length) : First l [] k := ⟨by unfold lineW; rw [h]; rfl, rfl, hk, Nat.zero_le _⟩
theorem all_append_bad {xs : List (List UInt8)} {q : List UInt8} {r : List (List UInt8)} (h : goodW q = false) : (xs ++ q :: r).all goodW = false := by
 rw [List.all_append, List.all_cons, h]; simp
theorem goodW_bad {p q : List UInt8} {c : UInt8} (h : isSB c = false) : goodW (p ++ c :: q) = false := by
 unfold goodW;rw [List.all_append, List.all_cons, h]; simp
theorem First.stop {l : List UInt8} {xs : List (List UInt8)} {k : Nat} (h : First l xs k) (hs : k = l.length \/ ∃ hk : k < l.length, isSB l[k] = false) : lineB l = false := by
 unfold lineB;rw [h.eq];rcases hs with hs | ⟨hk, hc⟩
 ·rw [List.drop_of_length_le (by omega), pieces_nil];exact all_append_bad rfl
 ·rw [List.drop_eq_getElem_cons hk];by_cases hb : l[k] = 32
  ·rw [hb, pieces_blank]; exact all_append_bad rfl
  ·rw [pieces_cons hb];cases hp : pieces (l.drop (k + 1)) with
   | nil => exact absurd hp (pieces_ne _)
   | cons q r => exact all_append_bad (goodW_bad (p := []) hc)
theorem not_blank {c : UInt8} (h : isSB c = true) : c ≠ 32 := by
 intro e; subst e; rw [isSB_blank] at h; cases h
theorem take_one (l : List UInt8) (k : Nat) (hk : k < l.length) : (l.drop k).take (k + 1 - k) = [l[k]] := by
 rw [show k + 1 - k = 1 by omega, List.drop_eq_getElem_cons hk]; rfl
theorem First.word {l : List UInt8} {xs : List (List UInt8)} {k : Nat} (h : First l xs k) (hk : k < l.length) (hc : isSB l[k] = true) : Word l xs k k := by
 refine ⟨?_, h.good, hk, Nat.le_refl _, ?_, h.few⟩
 ·rw [h.eq, take_one l k hk, List.drop_eq_getElem_cons hk, pieces_cons (not_blank hc)]
 ·rw [take_one l k hk]; simp [goodW, hc]
theorem take_more (l : List UInt8) (b k : Nat) (hb : b <= k) (hk : k + 1 < l.length) : (l.drop b).take (k + 1 + 1 - b) = (l.drop b).take (k + 1 - b) ++ [l[k + 1]] := by
 rw [show k + 1 + 1 - b = (k + 1 - b) + 1 by omega, List.take_succ_eq_append_getElem (by rw [List.length_drop]; omega)]
 congr 2
 rw [List.getElem_drop]
 congr 1; omega
theorem goodW_more {p : List UInt8} {c : UInt8} (h : goodW p = true) (hc : isSB c = true) : goodW (p ++ [c]) = true := by
 unfold goodW at *
 rw [Bool.and_eq_true] at h ⊢;refine ⟨by simp, ?_⟩;rw [List.all_append, h.2]; simp [hc]
theorem Word.step {l : List UInt8} {xs : List (List UInt8)} {b k : Nat} (h : Word l xs b k) (hk : k + 1 < l.length) (hc : isSB l[k + 1] = true) : Word l xs b (k + 1) := by
 refine ⟨?_, h.good, hk, by have := h.le; omega, ?_, h.few⟩
 ·rw [h.eq, take_more l b k h.le hk, List.drop_eq_getElem_cons hk, pieces_cons (not_blank hc), glue_glue]
 ·rw [take_more l b k h.le hk]; exact goodW_more h.word hc
def wordAt (l : List UInt8) (b k : Nat) : List UInt8 := (l.drop b).take (k + 1 - b)
theorem Word.end_ {l : List UInt8} {xs : List (List UInt8)} {b k : Nat} (h : Word l xs b k) (hk : k + 1 = l.length) : lineB l = true /\ lineW l = xs ++ [wordAt l b k] := by
 have e : lineW l = xs ++ [wordAt l b k] := by
  have e2 : l.drop (k + 1) = [] := List.drop_of_length_le (by omega);rw [h.eq, e2, pieces_nil, glue_blank]; rfl
 refine ⟨?_, e⟩;unfold lineB;rw [e, List.all_append, h.good];have := h.word;unfold wordAt;simp [this]
theorem Word.next {l : List UInt8} {xs : List (List UInt8)} {b k : Nat} (h : Word l xs b k) (hk : k + 1 < l.length) (hc : l[k + 1] = 32) : First l (xs ++ [wordAt l b k]) (k + 1 + 1) := by
 refine ⟨?_, ?_, hk, ?_⟩
 ·rw [h.eq, List.drop_eq_getElem_cons hk, hc, pieces_blank, glue_blank]; simp [wordAt]
 ·rw [List.all_append, h.good];have := h.word;unfold wordAt;simp [this]
 ·have := h.few; have := h.le; simp; omega
theorem Word.bad {l : List UInt8} {xs : List (List UInt8)} {b k : Nat} (h : Word l xs b k) (hk : k + 1 < l.length) (hc : l[k + 1] ≠ 32) (hs : isSB l[k + 1] = false) : lineB l = false := by
 unfold lineB;rw [h.eq, List.drop_eq_getElem_cons hk, pieces_cons hc, glue_glue];cases hp : pieces (l.drop (k + 1 + 1)) with
 | nil => exact absurd hp (pieces_ne _)
 | cons q r =>
  refine all_append_bad ?_;rw [List.append_assoc];exact goodW_bad hs
end Go.Proofs.YtgjeofaedidnpaaGreatDoor
namespace Go.Proofs.YtgjeofaedidnpaaGreatDoor
open Go
def jumps (J : Nat -> Act -> World -> Prop) (Q : Exit -> Act -> World -> Prop) : Exit -> Act -> World -> Prop
 | .goto l, a, w => J l a w
 | e, a, w => Q e a w
section
variable {P : Program} {a : Act} {w : World} {Q : Exit -> Act -> World -> Prop} {J : Nat -> Act -> World -> Prop}
@[go_sem] theorem jumps_normal : jumps J Q .normal a w = Q .normal a w := rfl
@[go_sem] theorem jumps_exit (id : Nat) : jumps J Q (.exit id) a w = Q (.exit id) a w := rfl
@[go_sem] theorem jumps_ret : jumps J Q .ret a w = Q .ret a w := rfl
@[go_sem] theorem jumps_panic (ch : List PanicEntry) : jumps J Q (.panic ch) a w = Q (.panic ch) a w := rfl
theorem walk_on {K : Act -> World -> Prop} {y : Code} (hK : ∀ a w, y.wp P Q a w -> K a w) (h : y.wp P Q a w) : Exit.then K Q .normal a w := hK _ _ h
theorem wp_rest {rest : Code} (h : rest.wp P Q a w) : (Code.seq .skip rest).wp P Q a w := wp_seq (wp_skip h)
theorem wp_scope_labels {c : Code} (J : Nat -> Act -> World -> Prop) (m : Nat -> Act -> World -> Nat)
 (pass : ∀ l a w, J l a w -> ∃ rest, findLabel c l = some (.seq .skip rest) /\
  ((∀ l' a' w' rest', findLabel c l' = some (.seq .skip rest') -> J l' a' w' -> m l' a' w' < m l a w -> rest'.wp P (jumps (fun l' a' w' => J l' a' w' /\ m l' a' w' < m l a w) Q) a' w') ->
   rest.wp P (jumps (fun l' a' w' => J l' a' w' /\ m l' a' w' < m l a w) Q) a w))
 (first : (∀ l' a' w' rest', findLabel c l' = some (.seq .skip rest') -> J l' a' w' -> rest'.wp P (jumps J Q) a' w') -> c.wp P (jumps J Q) a w) : (Code.scope c).wp P Q a w := by
 have mono : ∀ {J1 J2 : Nat -> Act -> World -> Prop} {rest : Code} {a w}, (∀ l a w, J1 l a w -> J2 l a w) -> rest.wp P (jumps J1 Q) a w -> rest.wp P (jumps J2 Q) a w := by
  intro J1 J2 rest a w hj h;refine wp_mono h ?_;intro e a w he;cases e with
  | goto l => exact hj l a w he
  | normal => exact he
  | exit id => exact he
  | ret => exact he
  | panic ch => exact he
  | outgrown => exact he
 have all : ∀ n l a w rest, findLabel c l = some (.seq .skip rest) -> m l a w = n -> J l a w -> rest.wp P (jumps (fun l' a' w' => J l' a' w' /\ m l' a' w' < n) Q) a w := by
  intro n
  induction n using Nat.strongRecOn with
  | _ n ih =>
   intro l a w rest hf hn hJ;obtain ⟨rest', hf', hp⟩ := pass l a w hJ;rw [hf] at hf';injection hf' with hf'
   injection hf' with _ hf'
   subst hf';rw [hn] at hp;exact hp (fun l' a' w' rest2 hf2 hJ2 hlt => mono (fun l3 a3 w3 h3 => ⟨h3.1, by omega⟩) (ih _ hlt l' a' w' rest2 hf2 rfl hJ2))
 intro b k cs;have key : ∀ n l a w rest, findLabel c l = some (.seq .skip rest) -> m l a w = n -> J l a w -> ∃ e a' w', Q e a' w' /\ Arrives P (lone (b.at a (.code (.seq .skip rest) :: .inScope c :: k)) cs w) b k cs e a' w' := by
  intro n
  induction n using Nat.strongRecOn with
  | _ n ih =>
   intro l a w rest hf hn hJ;obtain ⟨e, a1, w1, hq, harr⟩ := wp_rest (all n l a w rest hf hn hJ) b (.inScope c :: k) cs;cases e with
   | normal => exact ⟨.normal, a1, w1, hq, Steps.trans harr (.one step_inScope)⟩
   | exit id => exact ⟨.exit id, a1, w1, hq, fun k' hk => harr k' (by simp [exitTo, hk])⟩
   | goto l' =>
    obtain ⟨hJ', hlt⟩ := hq;obtain ⟨rest2, hf2, _⟩ := pass l' a1 w1 hJ';have hg : gotoIn l' (.inScope c :: k) = some (.code (.seq .skip rest2) :: .inScope c :: k) := by simp [gotoIn, hf2]
    obtain ⟨e2, a2, w2, hq2, harr2⟩ := ih _ (by omega) l' a1 w1 rest2 hf2 rfl hJ';exact ⟨e2, a2, w2, hq2, .of_steps (harr _ hg) harr2⟩
   | ret => exact ⟨_, a1, w1, hq, harr⟩
   | panic ch => exact ⟨_, a1, w1, hq, harr⟩
   | outgrown => exact ⟨_, a1, w1, hq, harr⟩
 obtain ⟨e, a1, w1, hq, harr⟩ := first (fun l' a' w' rest' hf hJ => mono (fun _ _ _ h => h.1) (all _ l' a' w' rest' hf rfl hJ)) b (.inScope c :: k) cs;cases e with
 | normal => exact ⟨.normal, a1, w1, hq, .head step_scope (Steps.trans harr (.one step_inScope))⟩
 | exit id => exact ⟨.exit id, a1, w1, hq, fun k' hk => .head step_scope (harr k' (by simp [exitTo, hk]))⟩
 | goto l' =>
  obtain ⟨rest2, hf2, _⟩ := pass l' a1 w1 hq;have hg : gotoIn l' (.inScope c :: k) = some (.code (.seq .skip rest2) :: .inScope c :: k) := by simp [gotoIn, hf2]
  obtain ⟨e2, a2, w2, hq2, harr2⟩ := key _ l' a1 w1 rest2 hf2 rfl hq;exact ⟨e2, a2, w2, hq2, .of_steps (.head step_scope (harr _ hg)) harr2⟩
 | ret => exact ⟨_, a1, w1, hq, .of_steps (.one step_scope) harr⟩
 | panic ch => exact ⟨_, a1, w1, hq, .of_steps (.one step_scope) harr⟩
 | outgrown => exact ⟨_, a1, w1, hq, .of_steps (.one step_scope) harr⟩
end
end Go.Proofs.YtgjeofaedidnpaaGreatDoor
namespace Go.Proofs.YtgjeofaedidnpaaGreatDoor
open Go.RowKit
def isLB (c : UInt8) : Bool := decide (97 <= c.toNat /\ c.toNat <= 122)
theorem isLB_iff {c : UInt8} : isLB c = true ↔ 97 <= c.toNat /\ c.toNat <= 122 := decide_eq_true_iff
def takenB (l : List UInt8) : Bool := l == [116, 114, 117, 101] || l == [102, 97, 108, 115, 101] || l == [105, 110] || l == [114, 101] || l == [105, 109]
def okB (c : UInt8) : Bool := isLB c || isD c || c == 95
theorem isLetter_any (c : UInt8) (w : World) :
 Calls Tryz.prog 118 #[.int .u8 c.toNat] w fun e w' => e = .returned (.bool (isLB c)) /\ w = w' := by
 by_cases h1 : (97 : Int) <= c.toNat
 ·by_cases h2 : (c.toNat : Int) <= 122
  ·have hL : isLB c = true := decide_eq_true ⟨by omega, by omega⟩;rw [hL]; clear hL
   go_enter Tryz.func118, Tryz.ntmps118
   go_wp2;go_ret;exact ⟨rfl, rfl⟩
  ·have hL : isLB c = false := decide_eq_false (fun h => h2 (by omega));rw [hL]; clear hL
   go_enter Tryz.func118, Tryz.ntmps118
   go_wp2;go_ret;exact ⟨rfl, rfl⟩
 ·have hL : isLB c = false := decide_eq_false (fun h => h1 (by omega));rw [hL]; clear hL
  go_enter Tryz.func118, Tryz.ntmps118
  go_wp2;go_ret;exact ⟨rfl, rfl⟩
theorem isDigit_any (c : UInt8) (w : World) :
 Calls Tryz.prog 120 #[.int .u8 c.toNat] w fun e w' => e = .returned (.bool (isD c)) /\ w = w' := by
 by_cases h1 : (48 : Int) <= c.toNat
 ·by_cases h2 : (c.toNat : Int) <= 57
  ·have hL : isD c = true := decide_eq_true ⟨by omega, by omega⟩;rw [hL]; clear hL
   go_enter Tryz.func120, Tryz.ntmps120
   go_wp2;go_ret;exact ⟨rfl, rfl⟩
  ·have hL : isD c = false := decide_eq_false (fun h => h2 (by omega));rw [hL]; clear hL
   go_enter Tryz.func120, Tryz.ntmps120
   go_wp2;go_ret;exact ⟨rfl, rfl⟩
 ·have hL : isD c = false := decide_eq_false (fun h => h1 (by omega));rw [hL]; clear hL
  go_enter Tryz.func120, Tryz.ntmps120
  go_wp2;go_ret;exact ⟨rfl, rfl⟩
theorem isTaken_any (s : ByteArray) (w : World) :
 Calls Tryz.prog 119 #[.string s] w fun e w' => e = .returned (.bool (takenB s.data.toList)) /\ w = w' := by
 go_enter Tryz.func119, Tryz.ntmps119
 go_wp2
 all_goals go_ret
 all_goals refine ⟨?_, rfl⟩
 all_goals rw [<- Lib.toList_data]
 all_goals simp_all [takenB]
end Go.Proofs.YtgjeofaedidnpaaGreatDoor
namespace Go.Proofs.YtgjeofaedidnpaaGreatDoor
open Go.RowKit
def nameB (l : List UInt8) : Bool := match l with | [] => false | c :: r => decide (r.length < 12) && isLB c && r.all okB && !takenB l
theorem ret_bool {a b : Bool} (h : a = b) : Ending.returned (.bool a) = .returned (.bool b) := by rw [h]
theorem at_list (s : ByteArray) (k : Nat) (_h : k < s.size) (h' : k < s.data.toList.length) : s.data.toList[k] = s[k] := by simp; rfl
theorem byte_is {c : UInt8} {k : Nat} (hk : k < 256) (h : c = UInt8.ofNat k) : ((c.toNat : Int) == (k : Nat)) = true := by
 rw [h, UInt8.toNat_ofNat', Nat.mod_eq_of_lt (show k < 2 ^ 8 from hk)]; exact beq_self_eq_true _
theorem byte_not {c : UInt8} {k : Nat} (hk : k < 256) (h : c ≠ UInt8.ofNat k) : ((c.toNat : Int) == (k : Nat)) = false := by
 apply beq_eq_false_iff_ne.2;intro e;apply h;apply UInt8.toNat_inj.1;rw [UInt8.toNat_ofNat', Nat.mod_eq_of_lt (show k < 2 ^ 8 from hk)]; omega
theorem nameB_end {l : List UInt8} {c : UInt8} {r : List UInt8} (e : l = c :: r) (h1 : isLB c = true) (h2 : r.length < 12) (h3 : r.all okB = true) : nameB l = !takenB l := by
 subst e; simp [nameB, h1, h2, h3]
theorem nameB_long {l : List UInt8} (h : 12 < l.length) : nameB l = false := by
 cases l with
 | nil => rfl
 | cons c r =>
  have : ¬ r.length < 12 := by simp at h; omega
  simp [nameB, this]
theorem nameB_first {l : List UInt8} (h : ∀ h0 : 0 < l.length, isLB l[0] = false) : nameB l = false := by
 cases l with
 | nil => rfl
 | cons c r =>
  have : isLB c = false := h (by simp);simp [nameB, this]
theorem nameB_bad {l : List UInt8} {k : Nat} (hk : k + 1 < l.length) (h : okB l[k + 1] = false) : nameB l = false := by
 cases l with
 | nil => rfl
 | cons c r =>
  have : r.all okB = false := by
   rw [List.all_eq_false];simp only [List.getElem_cons_succ] at h;simp only [List.length_cons] at hk;exact ⟨r[k]'(by omega), List.getElem_mem _, by rw [h]; decide⟩
  simp [nameB, this]
def Oks (l : List UInt8) (k : Nat) : Prop := ((l.drop 1).take k).all okB = true
theorem Oks.zero (l : List UInt8) : Oks l 0 := by simp [Oks]
theorem Oks.step {l : List UInt8} {k : Nat} (h : Oks l k) (hk : k + 1 < l.length) (ho : okB l[k + 1] = true) : Oks l (k + 1) := by
 unfold Oks at *
 have e : (l.drop 1).take (k + 1) = (l.drop 1).take k ++ [l[k + 1]] := by
  rw [List.take_succ_eq_append_getElem (by simp; omega)];simp
 rw [e, List.all_append, h];simp [ho]
theorem Oks.all {l : List UInt8} {k : Nat} (h : Oks l k) (hk : k + 1 = l.length) : ∃ c r, l = c :: r /\ r.all okB = true := by
 cases l with
 | nil => simp at hk
 | cons c r =>
  refine ⟨c, r, rfl, ?_⟩;unfold Oks at h
  simpa [List.take_of_length_le (show r.length <= k by simp at hk; omega)] using h
def NmAt (s : ByteArray) (k : Nat) (a : Act) : Prop := ∃ u1 u4 u5 u6 u7 u8 u9 u10 u11 u12 u13 u14 u15 u16 u17 u18 u19 u20 u21 u22 u23 u24 u25 u26 u27 u28 u29 u30 u31 u32 u33 u34 u35 u36 u37 u38 u39 u40 u41 u42 : Value,  a = { tmps := #[.string s, u1, .bool false, .int .i64 k, u4, u5, u6, u7, u8, u9, u10, u11, u12, u13, u14, u15, u16, u17, u18, u19, u20, u21, u22, u23, u24, u25, u26, u27, u28, u29, u30, u31, u32, u33, u34, u35, u36, u37, u38, u39, u40, u41, u42], defers := [] }
def kOf (a : Act) (i : Nat) : Nat := match a.tmps.getD i undef with | .int _ n => n.toNat | _ => 0
theorem name_no (s : ByteArray) (w : World) (h : s.data.toList = [] \/ 12 < s.size \/ ∃ h0 : 0 < s.size, isLB s[0] = false) :
 Calls Tryz.prog 82 #[.string s] w fun e w' => e = .returned (.bool false) /\ w = w' := by
 by_cases h1 : s.data.toList = []
 ·have hne : s.toList.isEmpty = true := by rw [Lib.toList_data, h1]; rfl
  clear h h1
  go_enter Tryz.func82, Tryz.ntmps82
  go_wp2
  go_step3
  go_wp2;rw [Exit.noGoto_ret];go_ret;exact ⟨rfl, rfl⟩
 ·have hne : s.toList.isEmpty = false := by
   rw [Lib.toList_data]; simpa using h1
  by_cases h2 : 12 < s.size
  ·clear h h1;have h2' : (12 : Int) < s.size := by omega
   go_enter Tryz.func82, Tryz.ntmps82
   go_wp2
   go_step3
   go_wp2;rw [Exit.noGoto_ret];go_ret;exact ⟨rfl, rfl⟩
  ·obtain ⟨h0, h3⟩ := h.resolve_left h1 |>.resolve_left h2
   clear h h1
   go_enter Tryz.func82, Tryz.ntmps82
   go_wp2
   go_step3
   go_wp2_with (go_at_call 118; refine (isLetter_any _ _).mono ?_; rintro e w' ⟨rfl, rfl⟩)
   rw [Exit.noGoto_ret];go_ret;exact ⟨rfl, rfl⟩
theorem name_go (s : ByteArray) (w : World) (h1 : 0 < s.size) (h2 : ¬ 12 < s.size) (h3 : isLB s[0] = true) :
 Calls Tryz.prog 82 #[.string s] w fun e w' => e = .returned (.bool (nameB s.data.toList)) /\ w = w' := by
 have hl : s.data.toList.length = s.size := (Lib.size_eq s).symm;have hne : s.toList.isEmpty = false := by
  rw [Lib.toList_data];cases h : s.data.toList with
  | nil => rw [h] at hl; simp at hl; omega
  | cons a r => rfl
 have hend : ∀ k, Oks s.data.toList k -> k + 1 = s.size -> nameB s.data.toList = !takenB s.data.toList := by
  intro k ho hk;obtain ⟨c, r, e, hr⟩ := ho.all (by omega);have h0 : isLB s.data.toList[0] = true := by rw [at_list s 0 h1]; exact h3
  refine nameB_end e ?_ ?_ hr
  ·simp only [e, List.getElem_cons_zero] at h0; exact h0
  ·rw [e] at hl; simp at hl; omega
 have hbad : ∀ k (hk : k + 1 < s.size), okB s[k + 1] = false -> nameB s.data.toList = false := by
  intro k hk ho;exact nameB_bad (k := k) (by omega) (by rw [at_list s _ hk]; exact ho)
 have hstep : ∀ k (hk : k + 1 < s.size), okB s[k + 1] = true -> Oks s.data.toList k -> Oks s.data.toList (k + 1) := by
  intro k hk ho h;exact h.step (by omega) (by rw [at_list s _ hk]; exact ho)
 have HE := Lib.hid hend; have HB := Lib.hid hbad; have HS := Lib.hid hstep;clear hend hbad hstep hl
 go_enter Tryz.func82, Tryz.ntmps82
 go_wp2;refine wp_scope_labels (fun l a w' => w = w' /\ l = 0 /\ ∃ k, k < s.size /\ Oks s.data.toList k /\ NmAt s k a) (fun _ a _ => s.size - kOf a 3) ?_ ?_
 ·rintro l a w' ⟨rfl, rfl, k, hk, HO, u1, u4, u5, u6, u7, u8, u9, u10, u11, u12, u13, u14, u15, u16, u17, u18, u19, u20, u21, u22, u23, u24, u25, u26, u27, u28, u29, u30, u31, u32, u33, u34, u35, u36, u37, u38, u39, u40, u41, u42, rfl⟩;refine ⟨_, rfl, ?_⟩;intro H;clear H;by_cases he : k + 1 = s.size
  ·have he' : (k : Int) + 1 = s.size := by omega
   have HR := Lib.hid (HE.out k HO he);clear he
   go_wp2_with (go_at_call 119; refine (isTaken_any _ _).mono ?_; rintro e w' ⟨rfl, rfl⟩)
   go_ret;exact ⟨ret_bool HR.out.symm, rfl⟩
  ·have hlt : k + 1 < s.size := by omega
   have he' : ¬ ((k : Int) + 1 = s.size) := by omega
   clear he;cases hok : okB s[k + 1]
   ·have HR := Lib.hid (HB.out k hlt hok);unfold okB at hok;simp only [Bool.or_eq_false_iff] at hok;obtain ⟨⟨hb1, hb2⟩, hb3⟩ := hok;have hb4 : ((s[k + 1].toNat : Int) == 95) = false := by
     apply beq_eq_false_iff_ne.2;intro e;apply (beq_eq_false_iff_ne.1 hb3);apply UInt8.toNat_inj.1;show _ = 95;omega
    clear hb3
    go_wp2_with (first | (go_at_call 118; refine (isLetter_any _ _).mono ?_; rintro e w' ⟨rfl, rfl⟩) | (go_at_call 120; refine (isDigit_any _ _).mono ?_; rintro e w' ⟨rfl, rfl⟩))
    go_ret;exact ⟨ret_bool HR.out.symm, rfl⟩
   ·have HR := Lib.hid (HS.out k hlt hok HO);have h3 : isLB s[k + 1] = true \/ (isLB s[k + 1] = false /\ isD s[k + 1] = true) \/ (isLB s[k + 1] = false /\ isD s[k + 1] = false /\ ((s[k + 1].toNat : Int) == 95) = true) := by
     unfold okB at hok;cases hb1 : isLB s[k + 1]
     ·cases hb2 : isD s[k + 1]
      ·rw [hb1, hb2] at hok;have := beq_iff_eq.1 hok;exact Or.inr (Or.inr ⟨rfl, rfl, by rw [this]; rfl⟩)
      ·exact Or.inr (Or.inl ⟨rfl, rfl⟩)
     ·exact Or.inl rfl
    clear hok;rcases h3 with hb1 | ⟨hb1, hb2⟩ | ⟨hb1, hb2, hb3⟩
    all_goals
     go_wp2_with (first | (go_at_call 118; refine (isLetter_any _ _).mono ?_; rintro e w' ⟨rfl, rfl⟩) | (go_at_call 120; refine (isDigit_any _ _).mono ?_; rintro e w' ⟨rfl, rfl⟩))
     go_step3
     refine ⟨⟨rfl, rfl, k + 1, hlt, HR.out, _, _, _, _, _, _, _, _, _, _, _, _, _, _, _, _, _, _, _, _, _, _, _, _, _, _, _, _, _, _, _, _, _, _, _, _, _, _, _, _, rfl⟩, ?_⟩;simp [kOf]; omega
 ·intro H;have HH := Lib.hid H; clear H
  go_wp2_with (go_at_call 118; refine (isLetter_any _ _).mono ?_; rintro e w' ⟨rfl, rfl⟩)
  go_step3
  refine walk_on (by assumption) (HH.out 0 _ _ _ rfl ⟨rfl, rfl, 0, h1, Oks.zero _, _, _, _, _, _, _, _, _, _, _, _, _, _, _, _, _, _, _, _, _, _, _, _, _, _, _, _, _, _, _, _, _, _, _, _, _, _, _, _, _, rfl⟩)
end Go.Proofs.YtgjeofaedidnpaaGreatDoor
namespace Go.Proofs.YtgjeofaedidnpaaGreatDoor
open Go.Lib
def fOf (l : List UInt8) : Nat := if l.head? = some 45 then 1 else 0
def okN (l : List UInt8) : Bool := !(l.drop (fOf l)).isEmpty && (l.drop (fOf l)).all isD && !((l.drop (fOf l)).head? == some 48 && decide (1 < l.length))
def valN (l : List UInt8) : Nat := valD 0 (l.drop (fOf l))
def numP (l : List UInt8) : Int × Int :=
 if okN l = true then (if 1099511627776 < valN l then (0, 5) else (if l.head? = some 45 then -(valN l : Int) else valN l, 0)) else (0, 1)
end Go.Proofs.YtgjeofaedidnpaaGreatDoor
namespace Go.Proofs.YtgjeofaedidnpaaGreatDoor
open Go.RowKit
def intOf : Value -> Int | .int _ q => q | _ => 0
end Go.Proofs.YtgjeofaedidnpaaGreatDoor
namespace Go.Proofs.YtgjeofaedidnpaaGreatDoor
open Go.RowKit
theorem refName_no (s : ByteArray) (w : World) (h : s.size < 1 \/ 12 < s.size \/ takenB s.data.toList = true) :
 Calls Tryz.prog 16 #[.string s] w fun e w' => e = .returned (.bool false) /\ w = w' := by
 by_cases h1 : s.size < 1
 ·have h1' : (s.size : Int) < 1 := by omega
  clear h h1
  go_enter Tryz.func16, Tryz.ntmps16
  go_wp2;go_ret;exact ⟨rfl, rfl⟩
 ·by_cases h2 : 12 < s.size
  ·have h2' : (12 : Int) < s.size := by omega
   clear h h2
   go_enter Tryz.func16, Tryz.ntmps16
   go_wp2;go_ret;exact ⟨rfl, rfl⟩
  ·have h3 := h.resolve_left h1 |>.resolve_left h2
   clear h;unfold takenB at h3;simp only [Bool.or_eq_true, beq_iff_eq] at h3;rcases h3 with (((h3 | h3) | h3) | h3) | h3
   all_goals
    have e : s = ⟨s.data.toList.toArray⟩ := by apply ByteArray.ext; simp
    rw [h3] at e;clear h3 h1 h2;subst e
    go_enter Tryz.func16, Tryz.ntmps16
    go_wp2;go_ret;exact ⟨rfl, rfl⟩
def Pn (l : List UInt8) (j : Nat) : Prop := j = 0 \/ ((∃ h : 0 < l.length, isLB l[0] = true) /\ Oks l (j - 1))
theorem Pn.first {l : List UInt8} (h : 0 < l.length) (hc : isLB l[0] = true) : Pn l (0 + 1) := Or.inr ⟨⟨h, hc⟩, Oks.zero _⟩
theorem Pn.step {l : List UInt8} {j : Nat} (h : Pn l j) (h0 : 0 < j) (hj : j < l.length) (hc : okB l[j] = true) : Pn l (j + 1) := by
 rcases h with h | ⟨h1, h2⟩
 ·omega
 ·refine Or.inr ⟨h1, ?_⟩;obtain ⟨k, rfl⟩ : ∃ k, j = k + 1 := ⟨j - 1, by omega⟩
  exact h2.step hj hc
theorem Pn.stop {l : List UInt8} {j : Nat} (h : Pn l j) (hj : j = l.length) (h0 : 0 < j) (h12 : j <= 12) (ht : takenB l = false) : nameB l = true := by
 rcases h with h | ⟨⟨h1, h2⟩, h3⟩
 ·omega
 ·obtain ⟨c, r, e, hr⟩ := h3.all (by omega);have hc : isLB c = true := by simp only [e, List.getElem_cons_zero] at h2; exact h2
  rw [nameB_end e hc (by rw [e] at hj; simp at hj; omega) hr, ht]; rfl
theorem Pn.bad {l : List UInt8} {j : Nat} (hj : j < l.length) (hc : okB l[j] = false) (h0 : 0 < j) : nameB l = false := by
 obtain ⟨k, rfl⟩ : ∃ k, j = k + 1 := ⟨j - 1, by omega⟩
 exact nameB_bad hj hc
theorem Pn.bad0 {l : List UInt8} (hj : 0 < l.length) (hc : isLB l[0] = false) : nameB l = false := nameB_first (fun _ => hc)
theorem okB_letter {c : UInt8} (h : isLB c = true) : okB c = true := by simp [okB, h]
set_option maxHeartbeats 1600000 in
theorem refName_go (s : ByteArray) (w : World) (h1 : ¬ s.size < 1) (h2 : ¬ 12 < s.size) (ht : takenB s.data.toList = false) :
 Calls Tryz.prog 16 #[.string s] w fun e w' => e = .returned (.bool (nameB s.data.toList)) /\ w = w' := by
 have hl : s.data.toList.length = s.size := (Lib.size_eq s).symm;have h1d : decide ((s.size : Int) < 1) = false := decide_eq_false (by omega);have h2d : decide ((12 : Int) < s.size) = false := decide_eq_false (by omega);have HT := Lib.hid ht;unfold takenB at ht;simp only [Bool.or_eq_false_iff] at ht;obtain ⟨⟨⟨⟨h3, h4⟩, h5⟩, h6⟩, h7⟩ := ht;rw [<- Lib.toList_data] at h3 h4 h5 h6 h7
 go_enter Tryz.func16, Tryz.ntmps16
 go_wp2
 go_loop [2, 3, 4, 5] (fun x2 i _ _ => x2 = .bool false /\ ∃ j : Nat, Pn s.data.toList j /\ j <= s.size /\ i = .int .i64 j) (fun _ i _ _ => s.size - (intOf i).toNat)
 case atStart => exact ⟨rfl, 0, Or.inl rfl, by omega, rfl⟩
 case round =>
  obtain ⟨rfl, j, hp, hj, rfl⟩ := hrel;by_cases hlt : j < s.size
  ·have hge : s.data.toList[j]'(by omega) = s[j] := at_list s j hlt _;cases hc : isLB s[j]
   ·have hn : (s[j].toNat : Int) < 97 \/ (97 <= (s[j].toNat : Int) /\ decide ((s[j].toNat : Int) <= 122) = false) := by
     have : ¬ (97 <= s[j].toNat /\ s[j].toNat <= 122) := of_decide_eq_false hc;rw [decide_eq_false_iff_not];omega
    by_cases h0 : j = 0
    ·have hf : nameB s.data.toList = false := by
      subst h0;exact Pn.bad0 (by omega) (by rw [hge]; exact hc)
     have h0' : ((j : Int) == 0) = true := beq_iff_eq.2 (by omega);clear h0;have HF := Lib.hid hf; clear hf hge hc;rcases hn with hn | ⟨hn, hn'⟩
     all_goals
      go_wp2
      all_goals first
       | (go_ret; exact ⟨ret_bool HF.out.symm, rfl⟩)
       | (exfalso; omega)
    ·have h0' : ((j : Int) == 0) = false := beq_eq_false_iff_ne.2 (by omega);cases hok : okB s[j]
     ·have hf : nameB s.data.toList = false := Pn.bad (j := j) (by omega) (by rw [hge]; exact hok) (by omega);have hd : (s[j].toNat : Int) < 48 \/ (48 <= (s[j].toNat : Int) /\ decide ((s[j].toNat : Int) <= 57) = false) := by
       rw [decide_eq_false_iff_not];unfold okB at hok;simp only [Bool.or_eq_false_iff] at hok;have : ¬ (48 <= s[j].toNat /\ s[j].toNat <= 57) := of_decide_eq_false hok.1.2;omega
      have h95 : ((s[j].toNat : Int) == 95) = false := by
       unfold okB at hok;simp only [Bool.or_eq_false_iff] at hok;exact byte_not (k := 95) (by decide) (beq_eq_false_iff_ne.1 hok.2)
      have HF := Lib.hid hf; clear hf hge hc hok;rcases hn with hn | ⟨hn, hn'⟩
      all_goals
       rcases hd with hd | ⟨hd, hd'⟩
       all_goals
        go_wp2
        all_goals first
         | (go_ret; exact ⟨ret_bool HF.out.symm, rfl⟩)
         | (exfalso; omega)
     ·have hs : Pn s.data.toList (j + 1) := hp.step (by omega) (by omega) (by rw [hge]; exact hok);have hd : (48 <= (s[j].toNat : Int) /\ (s[j].toNat : Int) <= 57) \/ ((s[j].toNat : Int) == 95) = true := by
       unfold okB at hok;rw [hc, Bool.false_or, Bool.or_eq_true] at hok;rcases hok with h | h
       ·have := isD_iff.1 h;exact Or.inl (by omega)
       ·exact Or.inr (byte_is (k := 95) (by decide) (beq_iff_eq.1 h))
      clear hge hc hok hp;rcases hn with hn | ⟨hn, hn'⟩
      all_goals
       rcases hd with ⟨hd, hd'⟩ | hd
       all_goals
        go_wp2
        all_goals
         go_round
         case rel => exact ⟨rfl, j + 1, hs, by omega, rfl⟩
         case measure => simp [intOf]; omega
   ·have hs : Pn s.data.toList (j + 1) := by
     by_cases h0 : j = 0
     ·subst h0; exact Pn.first (by omega) (by rw [hge]; exact hc)
     ·exact hp.step (by omega) (by omega) (by rw [hge]; exact okB_letter hc)
    have hb := isLB_iff.1 hc;have hb1 : (97 : Int) <= s[j].toNat := by omega
    have hb2 : (s[j].toNat : Int) <= 122 := by omega
    clear hge hc hp hb;go_wp2
    all_goals
     go_round
     case rel => exact ⟨rfl, j + 1, hs, by omega, rfl⟩
     case measure => simp [intOf]; omega
  ·have hf : nameB s.data.toList = true := hp.stop (by omega) (by omega) (by omega) HT.out;have HF := Lib.hid hf; clear hf;go_wp2;go_ret;exact ⟨ret_bool HF.out.symm, rfl⟩
theorem takenB_nameB {l : List UInt8} (h : takenB l = true) : nameB l = false := by
 cases l with
 | nil => rfl
 | cons c r => simp [nameB, h]
theorem refName_any (s : ByteArray) (w : World) :
 Calls Tryz.prog 16 #[.string s] w fun e w' => e = .returned (.bool (nameB s.data.toList)) /\ w = w' := by
 have hl : s.data.toList.length = s.size := (Lib.size_eq s).symm;by_cases h1 : s.size < 1
 ·have e : nameB s.data.toList = false := by rw [List.eq_nil_of_length_eq_zero (by omega : s.data.toList.length = 0)]; rfl
  rw [e]; exact refName_no s w (Or.inl h1)
 ·by_cases h2 : 12 < s.size
  ·rw [nameB_long (by omega)]; exact refName_no s w (Or.inr (Or.inl h2))
  ·cases h3 : takenB s.data.toList
   ·exact refName_go s w h1 h2 h3
   ·rw [takenB_nameB h3]; exact refName_no s w (Or.inr (Or.inr h3))
theorem name_any (s : ByteArray) (w : World) :
 Calls Tryz.prog 82 #[.string s] w fun e w' => e = .returned (.bool (nameB s.data.toList)) /\ w = w' := by
 have hl : s.data.toList.length = s.size := (Lib.size_eq s).symm;by_cases h1 : 0 < s.size
 ·by_cases h2 : 12 < s.size
  ·rw [nameB_long (by omega)]; exact name_no s w (Or.inr (Or.inl h2))
  ·cases h3 : isLB s[0]
   ·rw [nameB_first (fun h0 => by rw [at_list s 0 h1]; exact h3)]; exact name_no s w (Or.inr (Or.inr ⟨h1, h3⟩))
   ·exact name_go s w h1 h2 h3
 ·have e : s.data.toList = [] := List.eq_nil_of_length_eq_zero (by omega);rw [e]; exact name_no s w (Or.inl e)
end Go.Proofs.YtgjeofaedidnpaaGreatDoor
namespace Go.Proofs.YtgjeofaedidnpaaGreatDoor
structure CM where
 op : Int
 a : Int
 nm : List UInt8
instance : DecidableEq CM := fun x y => decidable_of_iff (x.op = y.op /\ x.a = y.a /\ x.nm = y.nm) (by cases x; cases y; simp)
def opC (o : Int) : CM := ⟨o, 0, []⟩
def nx (s : List UInt8) (p : Nat) : UInt8 := (s[p]?).getD 0
def wordP (s : List UInt8) (p : Nat) : List UInt8 := (s.drop p).takeWhile okB
def numT (s : List UInt8) (p : Nat) : List UInt8 := if nx s p = 48 then [48] else (s.drop p).takeWhile isD
def opOf (c d : UInt8) : Int × Nat × Nat :=
 if c = 43 then (11, 1, 4) else if c = 45 then (12, 1, 4) else if c = 42 then (13, 1, 5) else if c = 47 then (14, 1, 5) else if c = 37 then (15, 1, 5)
 else if c = 61 then (16, 1, 3) else if c = 33 then (if d = 61 then (17, 2, 3) else (0, 0, 0)) else if c = 60 then (if d = 61 then (19, 2, 3) else (18, 1, 3))
 else if c = 62 then (if d = 61 then (21, 2, 3) else (20, 1, 3)) else if c = 38 then (22, 1, 2) else if c = 124 then (23, 1, 1) else (0, 0, 0)
def opAt (s : List UInt8) (p : Nat) : Int × Nat × Nat := opOf (nx s p) (nx s (p + 1))
abbrev Rs := Bool × Nat × List CM
def closeD (s : List UInt8) (r : Rs) : Rs := if r.1 = true then (if nx s r.2.1 = 41 then (true, r.2.1 + 1, r.2.2) else (false, r.2.1, r.2.2)) else r
def addD (o : Int) (r : Rs) : Rs := if r.1 = true then (true, r.2.1, r.2.2 ++ [opC o]) else r
def stateD (s : List UInt8) (p : Nat) (cs : List CM) : Rs :=
 if nameB (wordP s (p + 3)) = true then
  closeD s (true, p + 3 + (wordP s (p + 3)).length, cs ++ [⟨6, 0, wordP s (p + 3)⟩])
 else (false, p + 3, cs)
def numD (s : List UInt8) (p : Nat) (cs : List CM) : Rs :=
 if (numP (numT s p)).2 ≠ 0 then (false, p, cs)
 else if nx s (p + (numT s p).length) = 105 then
  (if (numP (numT s p)).1 <= 1048576 then (true, p + (numT s p).length + 1, cs ++ [⟨2, (numP (numT s p)).1, []⟩]) else (false, p, cs))
 else (true, p + (numT s p).length, cs ++ [⟨1, (numP (numT s p)).1, []⟩])
inductive Q where
 | joins (k : Nat)
 | loop (k : Nat) (cmp : Bool)
 | ahead
def wTrue : List UInt8 := [116, 114, 117, 101]
def wFalse : List UInt8 := [102, 97, 108, 115, 101]
def wIn : List UInt8 := [105, 110]
def wRe : List UInt8 := [114, 101]
def wIm : List UInt8 := [105, 109]
def wordD (s : List UInt8) (p : Nat) (cs : List CM) (w : List UInt8) (inner : Rs) : Rs :=
 if w = wTrue then (true, p + 4, cs ++ [opC 3])
 else if w = wFalse then (true, p + 5, cs ++ [opC 4])
 else if nameB w = true then (true, p + w.length, cs ++ [⟨5, 0, w⟩])
 else if nx s (p + w.length) ≠ 40 then (false, p, cs)
 else if w = wIn then stateD s p cs
 else if w = wRe then addD 9 (closeD s inner)
 else if w = wIm then addD 10 (closeD s inner)
 else (false, p, cs)
def D (s : List UInt8) : Nat -> Q -> Nat -> List CM -> Rs
 | 0, _, _, cs => (false, s.length, cs)
 | n + 1, .joins k, p, cs =>
  if k = 6 then D s n .ahead p cs
  else if (D s n (.joins (k + 1)) p cs).1 = true then D s n (.loop k false) (D s n (.joins (k + 1)) p cs).2.1 (D s n (.joins (k + 1)) p cs).2.2
  else D s n (.joins (k + 1)) p cs
 | n + 1, .loop k cmp, p, cs =>
  if (opAt s p).2.2 ≠ k then (true, p, cs)
  else if cmp = true then (false, p, cs)
  else if (D s n (.joins (k + 1)) (p + (opAt s p).2.1) cs).1 = true then
   D s n (.loop k (k == 3)) (D s n (.joins (k + 1)) (p + (opAt s p).2.1) cs).2.1 ((D s n (.joins (k + 1)) (p + (opAt s p).2.1) cs).2.2 ++ [opC (opAt s p).1])
  else D s n (.joins (k + 1)) (p + (opAt s p).2.1) cs
 | n + 1, .ahead, p, cs =>
  if nx s p = 45 then addD 7 (D s n .ahead (p + 1) cs)
  else if nx s p = 33 then addD 8 (D s n .ahead (p + 1) cs)
  else if nx s p = 40 then closeD s (D s n (.joins 1) (p + 1) cs)
  else if isD (nx s p) = true then numD s p cs
  else wordD s p cs (wordP s p) (D s n (.joins 1) (p + 3) cs)
def parseP (s : List UInt8) : List CM × Nat × Int :=
 if 600 < s.length then ([], 0, 4)
 else if (D s (s.length * 10 + 8) (.joins 1) 0 []).1 = false \/ (D s (s.length * 10 + 8) (.joins 1) 0 []).2.1 < s.length then ([], (D s (s.length * 10 + 8) (.joins 1) 0 []).2.1, 1)
 else if 32 < (D s (s.length * 10 + 8) (.joins 1) 0 []).2.2.length then ([], 0, 4)
 else ((D s (s.length * 10 + 8) (.joins 1) 0 []).2.2, 0, 0)
end Go.Proofs.YtgjeofaedidnpaaGreatDoor
