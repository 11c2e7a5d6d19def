/- Own texts, joined: FH. -/
import Derived.Test.YtjgfkmakfdepcaaGreatDoorP9
namespace Go.Proofs.YtjgfkmakfdepcaaGreatDoor

/-- what waits: an operator and its strength; 0: a parenthesis (operator 0), or a call -/
abbrev Wt := Int × Int
structure Cf where
  beh : Bool
  p : Nat
  out : List CM
  w : List Wt
inductive Sp where
  | go (c : Cf)
  | bad (p : Nat)
  | fin (out : List CM)

def flushO (k : Int) : List CM → List Wt → List CM
  | out, [] => out
  | out, x :: r => if k ≤ x.2 then flushO k (out ++ [opC x.1]) r else out
def flushW (k : Int) : List Wt → List Wt
  | [] => []
  | x :: r => if k ≤ x.2 then flushW k r else x :: r
def cmpW : List Wt → Bool
  | [] => false
  | x :: r => if 0 < x.2 then (if x.2 = 3 then true else cmpW r) else false

def wordM (s : List UInt8) (p : Nat) (out : List CM) (w : List Wt) (x : List UInt8) : Sp :=
  if x = wRe ∧ nx s (p + x.length) = 40 then .go ⟨false, p + 3, out, (9, 0) :: w⟩
  else if x = wIm ∧ nx s (p + x.length) = 40 then .go ⟨false, p + 3, out, (10, 0) :: w⟩
  else if x = wIn ∧ nx s (p + x.length) = 40 then
    (if nameB (wordP s (p + 3)) = true then
      (if nx s (p + 3 + (wordP s (p + 3)).length) = 41 then .go ⟨true, p + 3 + (wordP s (p + 3)).length + 1, out ++ [⟨6, 0, wordP s (p + 3)⟩], w⟩
       else .bad (p + 3 + (wordP s (p + 3)).length))
     else .bad (p + 3))
  else if x = wTrue then .go ⟨true, p + 4, out ++ [opC 3], w⟩
  else if x = wFalse then .go ⟨true, p + 5, out ++ [opC 4], w⟩
  else if nameB x = true then .go ⟨true, p + x.length, out ++ [⟨5, 0, x⟩], w⟩
  else .bad p
def numM (s : List UInt8) (p : Nat) (out : List CM) (w : List Wt) : Sp :=
  if (numD s p out).1 = true then .go ⟨true, (numD s p out).2.1, (numD s p out).2.2, w⟩ else .bad p
def operM (s : List UInt8) (p : Nat) (out : List CM) (w : List Wt) : Sp :=
  if nx s p = 45 then .go ⟨false, p + 1, out, (7, 6) :: w⟩
  else if nx s p = 33 then .go ⟨false, p + 1, out, (8, 6) :: w⟩
  else if nx s p = 40 then .go ⟨false, p + 1, out, (0, 0) :: w⟩
  else if isD (nx s p) = true then numM s p out w
  else wordM s p out w (wordP s p)
def shutM (p : Nat) (out : List CM) : List Wt → Sp
  | [] => .bad p
  | x :: r => .go ⟨true, p + 1, if x.1 = 0 then out else out ++ [opC x.1], r⟩
def behM (s : List UInt8) (p : Nat) (out : List CM) (w : List Wt) : Sp :=
  if s.length ≤ p then (if flushW 1 w = [] then .fin (flushO 1 out w) else .bad p)
  else if nx s p = 41 then shutM p (flushO 1 out w) (flushW 1 w)
  else if (opAt s p).2.2 = 0 then .bad p
  else if (opAt s p).2.2 = 3 ∧ cmpW w = true then .bad p
  else .go ⟨false, p + (opAt s p).2.1, flushO ((opAt s p).2.2 : Nat) out w, ((opAt s p).1, ((opAt s p).2.2 : Nat)) :: flushW ((opAt s p).2.2 : Nat) w⟩
def stepM (s : List UInt8) (c : Cf) : Sp := if c.beh = true then behM s c.p c.out c.w else operM s c.p c.out c.w
def runM (s : List UInt8) : Nat → Cf → Option Sp
  | 0, _ => none
  | n + 1, c => match stepM s c with
    | .go c' => runM s n c'
    | .bad p => some (.bad p)
    | .fin o => some (.fin o)
def Ends (s : List UInt8) (c : Cf) (r : Sp) : Prop := ∃ n, runM s n c = some r

section
variable {s : List UInt8} {c c' : Cf} {R : Sp}
theorem ends_go (h : stepM s c = .go c') (h2 : Ends s c' R) : Ends s c R := by
  obtain ⟨n, hn⟩ := h2
  exact ⟨n + 1, by simp only [runM, h]; exact hn⟩
theorem ends_bad {p : Nat} (h : stepM s c = .bad p) (hR : R = .bad p) : Ends s c R := ⟨1, by simp only [runM, h, hR]⟩
theorem ends_fin {o : List CM} (h : stepM s c = .fin o) (hR : R = .fin o) : Ends s c R := ⟨1, by simp only [runM, h, hR]⟩

def opsW (U : List Wt) : List CM := U.map fun x => opC x.1
theorem opsW_append (U V : List Wt) : opsW (U ++ V) = opsW U ++ opsW V := by simp [opsW]
def Ge (k : Int) (U : List Wt) : Prop := ∀ x ∈ U, k ≤ x.2
theorem Ge.nil {k : Int} : Ge k [] := fun _ h => by cases h
theorem Ge.mono {k j : Int} {U : List Wt} (h : Ge k U) (hj : j ≤ k) : Ge j U := fun x hx => by have := h x hx; omega
theorem Ge.snoc {k : Int} {U : List Wt} {x : Wt} (h : Ge k U) (hx : k ≤ x.2) : Ge k (U ++ [x]) := by
  intro y hy
  rcases List.mem_append.1 hy with hy | hy
  · exact h y hy
  · simp at hy; subst hy; exact hx

theorem flushW_append {k : Int} {U W : List Wt} (h : Ge k U) : flushW k (U ++ W) = flushW k W := by
  induction U with
  | nil => rfl
  | cons x r ih =>
    show (if k ≤ x.2 then flushW k (r ++ W) else _) = _
    rw [if_pos (h x (by simp)), ih (fun y hy => h y (by simp [hy]))]
theorem flushO_append {k : Int} {U W : List Wt} (h : Ge k U) (out : List CM) : flushO k out (U ++ W) = flushO k (out ++ opsW U) W := by
  induction U generalizing out with
  | nil => simp [opsW]
  | cons x r ih =>
    show (if k ≤ x.2 then flushO k (out ++ [opC x.1]) (r ++ W) else _) = _
    rw [if_pos (h x (by simp)), ih (fun y hy => h y (by simp [hy]))]
    simp [opsW]
theorem flushW_len (k : Int) (W : List Wt) : (flushW k W).length ≤ W.length := by
  induction W with
  | nil => exact Nat.le_refl _
  | cons x r ih =>
    show (if k ≤ x.2 then flushW k r else x :: r).length ≤ _
    split
    · simp; omega
    · exact Nat.le_refl _
theorem flushO_stay {k : Int} {W : List Wt} (h : flushW k W = W) (out : List CM) : flushO k out W = out := by
  cases W with
  | nil => rfl
  | cons x r =>
    show (if k ≤ x.2 then _ else out) = out
    have h' : (if k ≤ x.2 then flushW k r else x :: r) = x :: r := h
    by_cases hk : k ≤ x.2
    · rw [if_pos hk] at h'
      have := flushW_len k r
      rw [h', List.length_cons] at this; omega
    · rw [if_neg hk]

/-- what waits below does not go out at strengths from k on, and no comparison waits there where one would be told -/
def Lt (k : Nat) (W : List Wt) : Prop := flushW (k : Int) W = W ∧ (k ≤ 3 → cmpW W = false)
theorem Lt.up {k : Nat} {W : List Wt} (h : Lt k W) : Lt (k + 1) W := by
  refine ⟨?_, fun hk => h.2 (by omega)⟩
  have h1 := h.1
  cases W with
  | nil => rfl
  | cons x r =>
    have h' : (if (k : Int) ≤ x.2 then flushW k r else x :: r) = x :: r := h1
    by_cases hk : (k : Int) ≤ x.2
    · rw [if_pos hk] at h'
      have := flushW_len k r
      rw [h', List.length_cons] at this; omega
    · show (if ((k + 1 : Nat) : Int) ≤ x.2 then _ else x :: r) = _
      rw [if_neg (by omega)]
theorem Lt.hold {o : Int} {W : List Wt} : Lt 1 ((o, 0) :: W) := ⟨rfl, fun _ => rfl⟩
theorem Lt.push {k : Nat} {o : Int} {W : List Wt} (h : Lt k W) (hk : 1 ≤ k) : Lt (k + 1) ((o, (k : Int)) :: W) := by
  refine ⟨?_, fun h3 => ?_⟩
  · show (if ((k + 1 : Nat) : Int) ≤ (k : Int) then _ else _) = _
    rw [if_neg (by omega)]
  · show (if 0 < (k : Int) then (if (k : Int) = 3 then true else cmpW W) else false) = false
    rw [if_pos (by omega), if_neg (by omega)]; exact h.2 (by omega)
theorem Lt.nil {k : Nat} : Lt k [] := ⟨rfl, fun _ => rfl⟩
theorem cmpW_append {U W : List Wt} (h : Ge 4 U) : cmpW (U ++ W) = cmpW W := by
  induction U with
  | nil => rfl
  | cons x r ih =>
    have := h x (by simp)
    show (if 0 < x.2 then (if x.2 = 3 then true else cmpW (r ++ W)) else false) = _
    rw [if_pos (by omega), if_neg (by omega), ih (fun y hy => h y (by simp [hy]))]
theorem cmpW_three {U W : List Wt} {o : Int} (h : Ge 4 U) : cmpW ((U ++ [(o, 3)]) ++ W) = true := by
  rw [List.append_assoc, cmpW_append h]; rfl

/-- wherever operands joined by strengths from k on have ended: the machine ends as told -/
def Good (s : List UInt8) (k : Nat) (r : Rs) (W : List Wt) (R : Sp) : Prop := (r.1 = true → ∀ out U, Ge k U → out ++ opsW U = r.2.2 → Ends s ⟨true, r.2.1, out, U ++ W⟩ R) ∧ (r.1 = false → R = .bad r.2.1)

def JC (s : List UInt8) (k p : Nat) (cs : List CM) : Prop := ∀ W R, Lt k W → Good s k (E s (.joins k) p cs) W R → Ends s ⟨false, p, cs, W⟩ R
def LC (s : List UInt8) (k : Nat) (b : Bool) (p : Nat) (cs : List CM) : Prop := ∀ W R out U, Lt k W → Ge k U → out ++ opsW U = cs → (b = true → k = 3) → (k = 3 → cmpW (U ++ W) = b) →
  Good s k (E s (.loop k b) p cs) W R → Ends s ⟨true, p, out, U ++ W⟩ R
def AC (s : List UInt8) (p : Nat) (cs : List CM) : Prop := ∀ W R, Good s 6 (E s .ahead p cs) W R → Ends s ⟨false, p, cs, W⟩ R

theorem stepM_oper {p : Nat} {out : List CM} {w : List Wt} : stepM s ⟨false, p, out, w⟩ = operM s p out w := rfl
theorem stepM_beh {p : Nat} {out : List CM} {w : List Wt} : stepM s ⟨true, p, out, w⟩ = behM s p out w := rfl

/-- no operator of strength k or above behind what is joined from k on -/
theorem after (s : List UInt8) : ∀ n : Nat, (∀ (k p : Nat) (cs : List CM), 1 ≤ k → k ≤ 6 → p ≤ s.length → need s (.joins k) p ≤ n → (E s (.joins k) p cs).1 = true → (opAt s (E s (.joins k) p cs).2.1).2.2 < k) ∧
    (∀ (k : Nat) (b : Bool) (p : Nat) (cs : List CM), 1 ≤ k → k ≤ 5 → p ≤ s.length → need s (.loop k b) p ≤ n → (opAt s p).2.2 < k + 1 → (E s (.loop k b) p cs).1 = true → (opAt s (E s (.loop k b) p cs).2.1).2.2 < k) := by
  intro n
  induction n with
  | zero => exact ⟨fun k p cs h1 h6 hp hn => by simp only [need] at hn; omega, fun k b p cs h1 h5 hp hn => by simp only [need] at hn; omega⟩
  | succ n ih =>
    obtain ⟨ihJ, ihL⟩ := ih
    refine ⟨?_, ?_⟩
    · intro k p cs h1 h6 hp hn ht
      by_cases hk : k = 6
      · subst hk
        have := opAt_five s (E s (.joins 6) p cs).2.1; omega
      · rw [E_joins h1 (by omega) hp] at ht ⊢
        by_cases hb : (E s (.joins (k + 1)) p cs).1 = true
        · rw [if_pos hb] at ht ⊢
          have hgo := E_goes (s := s) (q := .joins (k + 1)) (cs := cs) hp
          have hgt := hgo.gt hb
          have hle := hgo.le
          exact ihL k false _ _ h1 (by omega) hle (by simp only [need] at *; omega) (ihJ (k + 1) p cs (by omega) (by omega) hp (by simp only [need] at *; omega) hb) ht
        · rw [if_neg hb] at ht; exact absurd ht hb
    · intro k b p cs h1 h5 hp hn ho ht
      rw [E_loop h1 h5 hp] at ht ⊢
      by_cases hs : (opAt s p).2.2 ≠ k
      · rw [if_pos hs] at ht ⊢
        show (opAt s p).2.2 < k
        omega
      · rw [if_neg hs] at ht ⊢
        have hs := Decidable.not_not.1 hs
        by_cases hc : b = true
        · rw [if_pos hc] at ht; cases ht
        · rw [if_neg hc] at ht ⊢
          have hop := opAt_some (s := s) (p := p) (by omega)
          by_cases hb : (E s (.joins (k + 1)) (p + (opAt s p).2.1) cs).1 = true
          · rw [if_pos hb] at ht ⊢
            have hgo := E_goes (s := s) (q := .joins (k + 1)) (cs := cs) hop.2
            have hgt := hgo.gt hb
            have hle := hgo.le
            exact ihL k _ _ _ h1 h5 hle (by simp only [need] at *; omega) (ihJ (k + 1) _ cs (by omega) (by omega) hop.2 (by simp only [need] at *; omega) hb) ht
          · rw [if_neg hb] at ht; exact absurd ht hb
theorem after_one {p : Nat} {cs : List CM} (hp : p ≤ s.length) (h : (E s (.joins 1) p cs).1 = true) : (opAt s (E s (.joins 1) p cs).2.1).2.2 = 0 := by
  have := (after s _).1 1 p cs (by omega) (by omega) hp (Nat.le_refl _) h
  omega

/-- behind what stands in parentheses, or behind a call's -/
theorem held {p : Nat} {cs : List CM} {o : Int} {W : List Wt} {r : Rs} (hp : p ≤ s.length) (hj : JC s 1 p cs) (hr : r = closeD s (E s (.joins 1) p cs))
    (hT : r.1 = true → Ends s ⟨true, r.2.1, if o = 0 then r.2.2 else r.2.2 ++ [opC o], W⟩ R) (hF : r.1 = false → R = .bad r.2.1) : Ends s ⟨false, p, cs, (o, 0) :: W⟩ R := by
  refine hj _ _ Lt.hold ⟨?_, ?_⟩
  · intro ht out U hU ho
    have ha := after_one hp ht
    have hU' : Ge 1 U := hU
    have hfw : flushW 1 (U ++ (o, 0) :: W) = (o, 0) :: W := by rw [flushW_append hU']; rfl
    have hfo : flushO 1 out (U ++ (o, 0) :: W) = (E s (.joins 1) p cs).2.2 := by rw [flushO_append hU', ho]; rfl
    unfold closeD at hr
    rw [if_pos ht] at hr
    by_cases h41 : nx s (E s (.joins 1) p cs).2.1 = 41
    · rw [if_pos h41] at hr
      subst hr
      have hlt : (E s (.joins 1) p cs).2.1 < s.length := nx_lt (by rw [h41]; decide)
      refine ends_go (c' := _) ?_ (hT rfl)
      rw [stepM_beh]
      unfold behM
      rw [if_neg (by omega), if_pos h41, hfw, hfo]
      rfl
    · rw [if_neg h41] at hr
      subst hr
      refine ends_bad (p := (E s (.joins 1) p cs).2.1) ?_ (hF rfl)
      rw [stepM_beh]
      unfold behM
      by_cases hl : s.length ≤ (E s (.joins 1) p cs).2.1
      · rw [if_pos hl, hfw, if_neg (by simp)]
      · rw [if_neg hl, if_neg h41, if_pos ha]
  · intro hf
    unfold closeD at hr
    rw [if_neg (by rw [hf]; simp)] at hr
    subst hr
    exact hF hf

theorem num_case {p : Nat} {cs : List CM} {W : List Wt} (h : Good s 6 (numD s p cs) W R) (hs : operM s p cs W = numM s p cs W) : Ends s ⟨false, p, cs, W⟩ R := by
  by_cases ht : (numD s p cs).1 = true
  · refine ends_go (c' := ⟨true, (numD s p cs).2.1, (numD s p cs).2.2, W⟩) ?_ (h.1 ht _ [] Ge.nil (by simp [opsW]))
    rw [stepM_oper, hs]; unfold numM; rw [if_pos ht]
  · have hf : (numD s p cs).1 = false := by simpa using ht
    have hp : (numD s p cs).2.1 = p := by
      unfold numD at hf ⊢
      split
      · rfl
      · rename_i h0
        rw [if_neg h0] at hf
        split
        · rename_i h1
          rw [if_pos h1] at hf
          split
          · rename_i h2; rw [if_pos h2] at hf; cases hf
          · rfl
        · rename_i h1; rw [if_neg h1] at hf; cases hf
    refine ends_bad (p := p) ?_ (by rw [h.2 hf, hp])
    rw [stepM_oper, hs]; unfold numM; rw [if_neg ht]

theorem word_case {p : Nat} {cs : List CM} {W : List Wt} (hp : p ≤ s.length) (hj : p + 3 ≤ s.length → JC s 1 (p + 3) cs) (h : Good s 6 (wordD s p cs (wordP s p) (E s (.joins 1) (p + 3) cs)) W R) (hs : operM s p cs W = wordM s p cs W (wordP s p)) : Ends s ⟨false, p, cs, W⟩ R := by
  have hwl := word_le s p hp
  obtain ⟨x, hx⟩ : ∃ x, wordP s p = x := ⟨_, rfl⟩
  rw [hx] at h hs hwl
  unfold wordD at h
  unfold wordM at hs
  by_cases h1 : x = wTrue
  · subst h1
    rw [if_pos rfl] at h
    rw [if_neg (fun h => absurd h.1 (by decide)), if_neg (fun h => absurd h.1 (by decide)), if_neg (fun h => absurd h.1 (by decide)), if_pos rfl] at hs
    exact ends_go (stepM_oper.trans hs) (h.1 rfl _ [] Ge.nil (by simp [opsW]))
  rw [if_neg h1] at h
  by_cases h2 : x = wFalse
  · subst h2
    rw [if_pos rfl] at h
    rw [if_neg (fun h => absurd h.1 (by decide)), if_neg (fun h => absurd h.1 (by decide)), if_neg (fun h => absurd h.1 (by decide)), if_neg (by decide), if_pos rfl] at hs
    exact ends_go (stepM_oper.trans hs) (h.1 rfl _ [] Ge.nil (by simp [opsW]))
  rw [if_neg h2] at h
  by_cases h3 : nameB x = true
  · rw [if_pos h3] at h
    rw [if_neg (by rintro ⟨rfl, _⟩; exact absurd h3 (by decide)), if_neg (by rintro ⟨rfl, _⟩; exact absurd h3 (by decide)), if_neg (by rintro ⟨rfl, _⟩; exact absurd h3 (by decide)), if_neg h1, if_neg h2, if_pos h3] at hs
    exact ends_go (stepM_oper.trans hs) (h.1 rfl _ [] Ge.nil (by simp [opsW]))
  rw [if_neg h3] at h
  by_cases h4 : nx s (p + x.length) = 40
  · rw [if_neg (fun hh => hh h4)] at h
    have hlt : p + x.length < s.length := nx_lt (by rw [h4]; decide)
    by_cases h5 : x = wIn
    · subst h5
      rw [if_pos rfl] at h
      rw [if_neg (fun h => absurd h.1 (by decide)), if_neg (fun h => absurd h.1 (by decide)), if_pos ⟨rfl, h4⟩] at hs
      unfold stateD at h
      by_cases hn : nameB (wordP s (p + 3)) = true
      · rw [if_pos hn] at h hs
        unfold closeD at h
        rw [if_pos rfl] at h
        simp only at h
        by_cases h41 : nx s (p + 3 + (wordP s (p + 3)).length) = 41
        · rw [if_pos h41] at h hs
          exact ends_go (stepM_oper.trans hs) (h.1 rfl _ [] Ge.nil (by simp [opsW]))
        · rw [if_neg h41] at h hs
          exact ends_bad (stepM_oper.trans hs) (h.2 rfl)
      · rw [if_neg hn] at h hs
        exact ends_bad (stepM_oper.trans hs) (h.2 rfl)
    rw [if_neg h5] at h
    by_cases h6 : x = wRe
    · subst h6
      have h3l : p + 3 ≤ s.length := hlt
      rw [if_pos rfl] at h
      rw [if_pos ⟨rfl, h4⟩] at hs
      refine ends_go (stepM_oper.trans hs) (held (o := 9) (W := W) h3l (hj h3l) rfl ?_ ?_)
      · intro ht
        rw [if_neg (by decide)]
        unfold addD at h
        rw [if_pos ht] at h
        exact h.1 rfl _ [] Ge.nil (by simp [opsW])
      · intro hf
        unfold addD at h
        rw [if_neg (by rw [hf]; simp)] at h
        exact h.2 hf
    rw [if_neg h6] at h
    by_cases h7 : x = wIm
    · subst h7
      have h3l : p + 3 ≤ s.length := hlt
      rw [if_pos rfl] at h
      rw [if_neg (fun h => absurd h.1 (by decide)), if_pos ⟨rfl, h4⟩] at hs
      refine ends_go (stepM_oper.trans hs) (held (o := 10) (W := W) h3l (hj h3l) rfl ?_ ?_)
      · intro ht
        rw [if_neg (by decide)]
        unfold addD at h
        rw [if_pos ht] at h
        exact h.1 rfl _ [] Ge.nil (by simp [opsW])
      · intro hf
        unfold addD at h
        rw [if_neg (by rw [hf]; simp)] at h
        exact h.2 hf
    rw [if_neg h7] at h
    rw [if_neg (fun h => h6 h.1), if_neg (fun h => h7 h.1), if_neg (fun h => h5 h.1), if_neg h1, if_neg h2, if_neg h3] at hs
    exact ends_bad (stepM_oper.trans hs) (h.2 rfl)
  · rw [if_pos h4] at h
    rw [if_neg (fun h => h4 h.2), if_neg (fun h => h4 h.2), if_neg (fun h => h4 h.2), if_neg h1, if_neg h2, if_neg h3] at hs
    exact ends_bad (stepM_oper.trans hs) (h.2 rfl)

theorem sign_case {p : Nat} {cs : List CM} {W : List Wt} {o : Int} (ha : AC s (p + 1) cs) (h : Good s 6 (addD o (E s .ahead (p + 1) cs)) W R) (hs : operM s p cs W = .go ⟨false, p + 1, cs, (o, 6) :: W⟩) : Ends s ⟨false, p, cs, W⟩ R := by
  refine ends_go (stepM_oper.trans hs) (ha _ _ ⟨?_, ?_⟩)
  · intro ht out U hU ho
    unfold addD at h
    rw [if_pos ht] at h
    have := h.1 rfl out (U ++ [(o, 6)]) (Ge.snoc hU (Int.le_refl _)) (by rw [opsW_append, ← List.append_assoc, ho]; rfl)
    rw [List.append_assoc] at this
    exact this
  · intro hf
    unfold addD at h
    rw [if_neg (by rw [hf]; simp)] at h
    exact h.2 hf

theorem sim (s : List UInt8) : ∀ n : Nat, (∀ (k p : Nat) (cs : List CM), 1 ≤ k → k ≤ 6 → p ≤ s.length → need s (.joins k) p ≤ n → JC s k p cs) ∧
    (∀ (k : Nat) (b : Bool) (p : Nat) (cs : List CM), 1 ≤ k → k ≤ 5 → p ≤ s.length → need s (.loop k b) p ≤ n → LC s k b p cs) ∧
    (∀ (p : Nat) (cs : List CM), p ≤ s.length → need s .ahead p ≤ n → AC s p cs) := by
  intro n
  induction n with
  | zero => exact ⟨fun k p cs h1 h6 hp hn => by simp only [need] at hn; omega, fun k b p cs h1 h5 hp hn => by simp only [need] at hn; omega, fun p cs hp hn => by simp only [need] at hn; omega⟩
  | succ n ih =>
    obtain ⟨ihJ, ihL, ihA⟩ := ih
    refine ⟨?_, ?_, ?_⟩
    · intro k p cs h1 h6 hp hn W R hW hG
      by_cases hk : k = 6
      · subst hk
        rw [E_six hp] at hG
        exact ihA p cs hp (by simp only [need] at *; omega) W R hG
      · rw [E_joins h1 (by omega) hp] at hG
        refine ihJ (k + 1) p cs (by omega) (by omega) hp (by simp only [need] at *; omega) W R hW.up ⟨?_, ?_⟩
        · intro ht out U hU ho
          rw [if_pos ht] at hG
          have hgo := E_goes (s := s) (q := .joins (k + 1)) (cs := cs) hp
          have hgt := hgo.gt ht
          have hle := hgo.le
          refine ihL k false _ _ h1 (by omega) hle (by simp only [need] at *; omega) W R out U hW (hU.mono (by omega)) ho (fun h => by cases h) ?_ hG
          rintro rfl
          rw [cmpW_append (by exact hU)]
          exact hW.2 (by omega)
        · intro hf
          rw [if_neg (by rw [hf]; simp)] at hG
          exact hG.2 hf
    · intro k b p cs h1 h5 hp hn W R out U hW hU ho hb3 hcm hG
      rw [E_loop h1 h5 hp] at hG
      by_cases hs : (opAt s p).2.2 ≠ k
      · rw [if_pos hs] at hG
        exact hG.1 rfl out U hU ho
      · rw [if_neg hs] at hG
        have hs := Decidable.not_not.1 hs
        have hop := opAt_some (s := s) (p := p) (by omega)
        have h41 : nx s p ≠ 41 := fun e => by rw [opAt_41 e] at hs; simp at hs; omega
        by_cases hc : b = true
        · rw [if_pos hc] at hG
          have hk3 := hb3 hc
          refine ends_bad (p := p) ?_ (hG.2 rfl)
          rw [stepM_beh]
          unfold behM
          rw [if_neg (by omega), if_neg h41, if_neg (by omega), if_pos ⟨by omega, by rw [hcm hk3]; exact hc⟩]
        · rw [if_neg hc] at hG
          have hbf : b = false := by simpa using hc
          have hgo1 : stepM s ⟨true, p, out, U ++ W⟩ = .go ⟨false, p + (opAt s p).2.1, cs, ((opAt s p).1, (k : Int)) :: W⟩ := by
            rw [stepM_beh]
            unfold behM
            rw [if_neg (by omega), if_neg h41, if_neg (by omega), if_neg (by
              rintro ⟨e1, e2⟩
              rw [hcm (by omega), hbf] at e2; cases e2), hs, flushW_append hU, flushO_append hU, hW.1, flushO_stay hW.1, ho]
          refine ends_go hgo1 (ihJ (k + 1) _ cs (by omega) (by omega) hop.2 (by simp only [need] at *; omega) _ R (hW.push h1) ⟨?_, ?_⟩)
          · intro ht out2 U2 hU2 ho2
            rw [if_pos ht] at hG
            have hgo := E_goes (s := s) (q := .joins (k + 1)) (cs := cs) hop.2
            have hgt := hgo.gt ht
            have hle := hgo.le
            have := ihL k (k == 3) _ _ h1 h5 hle (by simp only [need] at *; omega) W R out2 (U2 ++ [((opAt s p).1, (k : Int))]) hW ((hU2.mono (by omega)).snoc (Int.le_refl _)) (by rw [opsW_append, ← List.append_assoc, ho2]; rfl) (fun h => by simpa using h) ?_ hG
            · rw [List.append_assoc] at this
              exact this
            · rintro rfl
              exact cmpW_three hU2
          · intro hf
            rw [if_neg (by rw [hf]; simp)] at hG
            exact hG.2 hf
    · intro p cs hp hn W R hG
      rw [E_ahead hp] at hG
      by_cases h45 : nx s p = 45
      · rw [if_pos h45] at hG
        have hlt := nx_lt (s := s) (p := p) (by rw [h45]; decide)
        exact sign_case (ihA (p + 1) cs (by omega) (by simp only [need] at *; omega)) hG (by unfold operM; rw [if_pos h45])
      rw [if_neg h45] at hG
      by_cases h33 : nx s p = 33
      · rw [if_pos h33] at hG
        have hlt := nx_lt (s := s) (p := p) (by rw [h33]; decide)
        exact sign_case (ihA (p + 1) cs (by omega) (by simp only [need] at *; omega)) hG (by unfold operM; rw [if_neg h45, if_pos h33])
      rw [if_neg h33] at hG
      by_cases h40 : nx s p = 40
      · rw [if_pos h40] at hG
        have hlt := nx_lt (s := s) (p := p) (by rw [h40]; decide)
        refine ends_go (c' := ⟨false, p + 1, cs, (0, 0) :: W⟩) (by rw [stepM_oper]; unfold operM; rw [if_neg h45, if_neg h33, if_pos h40]) (held (by omega) (ihJ 1 (p + 1) cs (by omega) (by omega) (by omega) (by simp only [need] at *; omega)) rfl ?_ hG.2)
        intro ht
        rw [if_pos rfl]
        exact hG.1 ht _ [] Ge.nil (by simp [opsW])
      rw [if_neg h40] at hG
      by_cases hd : isD (nx s p) = true
      · rw [if_pos hd] at hG
        exact num_case hG (by unfold operM; rw [if_neg h45, if_neg h33, if_neg h40, if_pos hd])
      rw [if_neg hd] at hG
      exact word_case hp (fun h3 => ihJ 1 (p + 3) cs (by omega) (by omega) h3 (by simp only [need] at *; omega)) hG (by unfold operM; rw [if_neg h45, if_neg h33, if_neg h40, if_neg hd])

/-- what the machine's end means -/
def resM : Sp → List CM × Nat × Int
  | .go _ => ([], 0, 0)
  | .bad p => ([], p, 1)
  | .fin o => if 32 < o.length then ([], 0, 4) else (o, 0, 0)

/-- the machine, begun at a text, comes to what the text is read as -/
theorem machine (s : List UInt8) (h : ¬ 600 < s.length) : ∃ R, Ends s ⟨false, 0, [], []⟩ R ∧ resM R = parseP s := by
  rw [parse_E, if_neg h]
  have hJ := (sim s _).1 1 0 [] (by omega) (by omega) (Nat.zero_le _) (Nat.le_refl _)
  have hle : (E s (.joins 1) 0 []).2.1 ≤ s.length := (E_goes (s := s) (q := .joins 1) (cs := []) (Nat.zero_le _)).le
  by_cases ht : (E s (.joins 1) 0 []).1 = true
  · have ha := after_one (s := s) (p := 0) (cs := []) (Nat.zero_le _) ht
    by_cases hlt : (E s (.joins 1) 0 []).2.1 < s.length
    · rw [if_pos (Or.inr hlt)]
      refine ⟨.bad (E s (.joins 1) 0 []).2.1, hJ _ _ Lt.nil ⟨fun _ out U hU ho => ?_, fun hf => rfl⟩, rfl⟩
      have hU' : Ge 1 U := hU
      refine ends_bad (p := (E s (.joins 1) 0 []).2.1) ?_ rfl
      rw [stepM_beh]
      unfold behM
      rw [if_neg (by omega)]
      by_cases h41 : nx s (E s (.joins 1) 0 []).2.1 = 41
      · rw [if_pos h41, flushW_append hU']; rfl
      · rw [if_neg h41, if_pos ha]
    · rw [if_neg (by rintro (h1 | h1)
                     · rw [ht] at h1; cases h1
                     · exact hlt h1)]
      refine ⟨.fin (E s (.joins 1) 0 []).2.2, hJ _ _ Lt.nil ⟨fun _ out U hU ho => ?_, fun hf => by rw [ht] at hf; cases hf⟩, rfl⟩
      have hU' : Ge 1 U := hU
      refine ends_fin (o := (E s (.joins 1) 0 []).2.2) ?_ rfl
      rw [stepM_beh]
      unfold behM
      rw [if_pos (by omega), flushW_append hU', flushO_append hU', ho]
      rfl
  · have hf : (E s (.joins 1) 0 []).1 = false := by simpa using ht
    rw [if_pos (Or.inl hf)]
    exact ⟨.bad (E s (.joins 1) 0 []).2.1, hJ _ _ Lt.nil ⟨fun h => absurd h ht, fun _ => rfl⟩, rfl⟩
end
end Go.Proofs.YtjgfkmakfdepcaaGreatDoor
