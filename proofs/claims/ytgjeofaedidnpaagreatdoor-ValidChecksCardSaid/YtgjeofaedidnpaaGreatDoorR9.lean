/- Own texts, joined: Ua, Xa, A8, Bb, Yr. -/
import Derived.Test.YtgjeofaedidnpaaGreatDoorR5
import Derived.Test.YtgjeofaedidnpaaGreatDoorR8
import Derived.ProofKit
import Derived.RangeFuncBox
namespace Go.Proofs.YtgjeofaedidnpaaGreatDoor.Tr
def parF (d : Nat -> Int) (i : Nat) : Nat -> Int
 | 0 => -1
 | k + 1 => if d i <= d k then parF d i k else k
def par (d : Nat -> Int) (i : Nat) : Int := parF d i i
theorem parF_succ (d : Nat -> Int) (i k : Nat) : parF d i (k + 1) = if d i <= d k then parF d i k else (k : Int) := rfl
def lasF (d : Nat -> Int) (i : Nat) : Nat -> Int
 | 0 => -1
 | k + 1 => if d k = d i - 1 then k else lasF d i k
theorem lasF_succ (d : Nat -> Int) (i k : Nat) : lasF d i (k + 1) = if d k = d i - 1 then (k : Int) else lasF d i k := rfl
def endF (d : Nat -> Int) (i : Nat) : Nat -> Nat -> Nat
 | 0, k => k
 | f + 1, k => if d i < d k then endF d i f (k + 1) else k
theorem endF_zero (d : Nat -> Int) (i k : Nat) : endF d i 0 k = k := rfl
theorem endF_succ (d : Nat -> Int) (i f k : Nat) : endF d i (f + 1) k = if d i < d k then endF d i f (k + 1) else k := rfl
def en (d : Nat -> Int) (n i : Nat) : Nat := endF d i (n - (i + 1)) (i + 1)
theorem parF_spec (d : Nat -> Int) (i : Nat) : ∀ k, (parF d i k = -1 /\ ∀ m, m < k -> d i <= d m) \/ ∃ p : Nat, parF d i k = p /\ p < k /\ d p < d i /\ ∀ m, p < m -> m < k -> d i <= d m
 | 0 => Or.inl ⟨rfl, fun m hm => by omega⟩
 | k + 1 => by
  rw [parF_succ];by_cases h : d i <= d k
  ·rw [if_pos h];rcases parF_spec d i k with ⟨h1, h2⟩ | ⟨p, h1, h2, h3, h4⟩
   ·refine Or.inl ⟨h1, fun m hm => ?_⟩;by_cases e : m = k
    ·subst e; exact h
    ·exact h2 m (by omega)
   ·refine Or.inr ⟨p, h1, by omega, h3, fun m hm hk => ?_⟩;by_cases e : m = k
    ·subst e; exact h
    ·exact h4 m hm (by omega)
  ·rw [if_neg h];exact Or.inr ⟨k, rfl, by omega, by omega, fun m h1 h2 => by omega⟩
theorem lasF_spec (d : Nat -> Int) (i : Nat) : ∀ k, (lasF d i k = -1 /\ ∀ m, m < k -> d m ≠ d i - 1) \/ ∃ p : Nat, lasF d i k = p /\ p < k /\ d p = d i - 1 /\ ∀ m, p < m -> m < k -> d m ≠ d i - 1
 | 0 => Or.inl ⟨rfl, fun m hm => by omega⟩
 | k + 1 => by
  rw [lasF_succ];by_cases h : d k = d i - 1
  ·rw [if_pos h];exact Or.inr ⟨k, rfl, by omega, h, fun m h1 h2 => by omega⟩
  ·rw [if_neg h];rcases lasF_spec d i k with ⟨h1, h2⟩ | ⟨p, h1, h2, h3, h4⟩
   ·refine Or.inl ⟨h1, fun m hm => ?_⟩;by_cases e : m = k
    ·subst e; exact h
    ·exact h2 m (by omega)
   ·refine Or.inr ⟨p, h1, by omega, h3, fun m hm hk => ?_⟩;by_cases e : m = k
    ·subst e; exact h
    ·exact h4 m hm (by omega)
theorem endF_spec (d : Nat -> Int) (i : Nat) : ∀ f k, k <= endF d i f k /\ endF d i f k <= k + f /\ (∀ m, k <= m -> m < endF d i f k -> d i < d m) /\ (endF d i f k < k + f -> d (endF d i f k) <= d i)
 | 0, k => ⟨Nat.le_refl _, Nat.le_refl _, fun m h1 h2 => by rw [endF_zero] at h2; omega, fun h => by rw [endF_zero] at h; omega⟩
 | f + 1, k => by
  rw [endF_succ];by_cases h : d i < d k
  ·rw [if_pos h];obtain ⟨h1, h2, h3, h4⟩ := endF_spec d i f (k + 1);refine ⟨by omega, by omega, fun m hm hk => ?_, fun hk => h4 (by omega)⟩;by_cases e : m = k
   ·subst e; exact h
   ·exact h3 m (by omega) hk
  ·rw [if_neg h];exact ⟨Nat.le_refl _, by omega, fun m h1 h2 => by omega, fun _ => by omega⟩
theorem en_spec (d : Nat -> Int) {n i : Nat} (hi : i < n) : i < en d n i /\ en d n i <= n /\ (∀ m, i < m -> m < en d n i -> d i < d m) /\ (en d n i < n -> d (en d n i) <= d i) := by
 obtain ⟨h1, h2, h3, h4⟩ := endF_spec d i (n - (i + 1)) (i + 1);have e : i + 1 + (n - (i + 1)) = n := by omega
 rw [e] at h2 h4;exact ⟨by unfold en; omega, h2, fun m hm hk => h3 m (by omega) hk, h4⟩
structure Nst (d : Nat -> Int) (n : Nat) : Prop where
 lo : ∀ i, i < n -> 0 <= d i
 hi : ∀ i, i < n -> d i < 6
 first : 0 < n -> d 0 <= 0
 step : ∀ i, i + 1 < n -> d (i + 1) <= d i + 1
section
variable {d : Nat -> Int} {n : Nat}
theorem Nst.nearest (h : Nst d n) {i : Nat} (hi : i < n) : (par d i = -1 /\ d i = 0) \/ ∃ p : Nat, par d i = p /\ p < i /\ d p = d i - 1 /\ ∀ m, p < m -> m < i -> d i <= d m := by
 rcases parF_spec d i i with ⟨h1, h2⟩ | ⟨p, h1, h2, h3, h4⟩
 ·refine Or.inl ⟨h1, ?_⟩;have h0 := h.lo i hi;have hf := h.first (by omega);rcases Nat.eq_zero_or_pos i with e | e
  ·subst e; omega
  ·have := h2 0 e; omega
 ·refine Or.inr ⟨p, h1, h2, ?_, h4⟩;have hs := h.step p (by omega);by_cases e : p + 1 = i
  ·rw [e] at hs; omega
  ·have := h4 (p + 1) (by omega) (by omega); omega
theorem Nst.las (h : Nst d n) {i : Nat} (hi : i < n) : lasF d i i = par d i := by
 rcases h.nearest hi with ⟨h1, h2⟩ | ⟨p, h1, h2, h3, h4⟩
 ·rw [h1];rcases lasF_spec d i i with ⟨g1, _⟩ | ⟨q, g1, g2, g3, _⟩
  ·exact g1
  ·have := h.lo q (by omega); omega
 ·rw [h1];rcases lasF_spec d i i with ⟨g1, g2⟩ | ⟨q, g1, g2, g3, g4⟩
  ·exact absurd h3 (g2 p h2)
  ·rw [g1];have : q = p := by
    rcases Nat.lt_trichotomy q p with e | e | e
    ·exact absurd h3 (g4 p e h2)
    ·exact e
    ·have := h4 q e g2; omega
   rw [this]
theorem Nst.par_eq (h : Nst d n) {i p : Nat} (hi : i < n) (hp : p < i) (h1 : d p < d i) (h2 : ∀ m, p < m -> m < i -> d i <= d m) : par d i = p := by
 rcases h.nearest hi with ⟨g1, g2⟩ | ⟨q, g1, g2, g3, g4⟩
 ·have := h.lo p (by omega); omega
 ·rw [g1];rcases Nat.lt_trichotomy q p with e | e | e
  ·have := g4 p e hp; omega
  ·rw [e]
  ·have := h2 q e g2; omega
def wi (d : Nat -> Int) (i j : Nat) : Prop := i < j /\ ∀ m, i < m -> m <= j -> d i < d m
theorem wi_iff {i j : Nat} (hi : i < n) (hj : j < n) : wi d i j ↔ i < j /\ j < en d n i := by
 obtain ⟨g1, g2, g3, g4⟩ := en_spec d hi;constructor
 ·intro ⟨h1, h2⟩;refine ⟨h1, ?_⟩;by_cases h : en d n i <= j
  ·have := h2 _ g1 h; have := g4 (by omega); omega
  ·omega
 ·intro ⟨h1, h2⟩;exact ⟨h1, fun m hm hk => g3 m hm (by omega)⟩
noncomputable instance {i j : Nat} : Decidable (wi d i j) := Classical.propDecidable _
theorem Nst.wi_par (h : Nst d n) {i j : Nat} (hj : j < n) : wi d i j ↔ ∃ p : Nat, par d j = p /\ (p = i \/ wi d i p) := by
 rcases h.nearest hj with ⟨g1, g2⟩ | ⟨p, g1, g2, g3, g4⟩
 ·constructor
  ·intro ⟨h1, h2⟩;have := h2 j h1 (Nat.le_refl _); have := h.lo i (by omega); omega
  ·rintro ⟨p, hp, _⟩; omega
 ·constructor
  ·intro ⟨h1, h2⟩;refine ⟨p, g1, ?_⟩;rcases Nat.lt_trichotomy p i with e | e | e
   ·have := g4 i e h1; have := h2 j h1 (Nat.le_refl _); omega
   ·exact Or.inl e
   ·exact Or.inr ⟨e, fun m hm hk => h2 m hm (by omega)⟩
  ·rintro ⟨q, hq, hr⟩;rw [g1] at hq;obtain rfl : p = q := by omega
   rcases hr with rfl | ⟨h1, h2⟩
   ·refine ⟨g2, fun m hm hk => ?_⟩;by_cases e : m = j
    ·subst e; omega
    ·have := g4 m hm (by omega); omega
   ·refine ⟨by omega, fun m hm hk => ?_⟩;by_cases e : m <= p
    ·exact h2 m hm e
    ·have := h2 p h1 (Nat.le_refl _);by_cases e2 : m = j
     ·subst e2; omega
     ·have := g4 m (by omega) (by omega); omega
def kidB (d : Nat -> Int) (i : Nat) (k : Nat) : Bool := decide (par d k = (i : Int))
def kids (d : Nat -> Int) (m i : Nat) : List Nat := (List.range m).filter (kidB d i)
theorem kids_succ (d : Nat -> Int) (m i : Nat) : kids d (m + 1) i = kids d m i ++ (if kidB d i m = true then [m] else []) := by
 unfold kids;rw [List.range_succ, List.filter_append]
 congr 1
 cases h : kidB d i m <;> simp [h]
theorem kids_to {i : Nat} : ∀ (g m : Nat), (∀ k, m <= k -> k < m + g -> kidB d i k = false) -> kids d (m + g) i = kids d m i
 | 0, m, _ => rfl
 | g + 1, m, h => by
  rw [show m + (g + 1) = (m + g) + 1 by omega, kids_succ, kids_to g m (fun k h1 h2 => h k h1 (by omega)), h (m + g) (by omega) (by omega)];simp
theorem kids_same {i m m' : Nat} (hm : m <= m') (h : ∀ k, m <= k -> k < m' -> kidB d i k = false) : kids d m' i = kids d m i := by
 have := kids_to (d := d) (i := i) (m' - m) m (fun k h1 h2 => h k h1 (by omega))
 rwa [show m + (m' - m) = m' by omega] at this
theorem mem_kids {i m k : Nat} : k ∈ kids d m i ↔ k < m /\ par d k = (i : Int) := by
 unfold kids kidB;rw [List.mem_filter, List.mem_range, decide_eq_true_iff]
theorem Nst.kid (h : Nst d n) {i k : Nat} (hk : k < n) (hp : par d k = (i : Int)) : i < k /\ d k = d i + 1 /\ ∀ m, i < m -> m < k -> d k <= d m := by
 rcases h.nearest hk with ⟨g1, g2⟩ | ⟨p, g1, g2, g3, g4⟩
 ·omega
 ·obtain rfl : p = i := by omega
  exact ⟨g2, by omega, g4⟩
theorem Nst.kids_first (h : Nst d n) {i : Nat} (hi : i < n) : kids d (i + 1) i = [] := by
 have : kids d (i + 1) i = kids d 0 i := kids_same (by omega) fun k _ hk => decide_eq_false fun e => by
  have := (h.kid (i := i) (k := k) (by omega) e).1; omega
 exact this
theorem Nst.first_kid (h : Nst d n) {i : Nat} (hi : i < n) (hk : i + 1 < en d n i) : par d (i + 1) = (i : Int) := by
 obtain ⟨g1, g2, g3, g4⟩ := en_spec d hi;exact h.par_eq (by omega) (by omega) (g3 _ (by omega) hk) (fun m h1 h2 => by omega)
theorem Nst.next_kid (h : Nst d n) {i k : Nat} (hi : i < n) (hk : k < en d n i) (hp : par d k = (i : Int)) :
 k < en d n k /\ en d n k <= en d n i /\ kids d (en d n k) i = kids d k i ++ [k] /\ (en d n k < en d n i -> par d (en d n k) = (i : Int)) := by
 obtain ⟨g1, g2, g3, g4⟩ := en_spec d hi;have hkn : k < n := by omega
 obtain ⟨e1, e2, e3⟩ := h.kid hkn hp;obtain ⟨f1, f2, f3, f4⟩ := en_spec d hkn;have hle : en d n k <= en d n i := by
  by_cases c : en d n k <= en d n i
  ·exact c
  ·have := f3 (en d n i) hk (by omega); have := g4 (by omega); omega
 refine ⟨f1, hle, ?_, fun hlt => ?_⟩
 ·rw [kids_same (m := k + 1) f1 (fun m h1 h2 => decide_eq_false fun e => ?_), kids_succ]
  ·rw [show kidB d i k = true from decide_eq_true hp]; rfl
  ·obtain ⟨_, q2, q3⟩ := h.kid (by omega) e;have := f3 m (by omega) h2; omega
 ·have := f4 (by omega);have := g3 (en d n k) (by omega) hlt;exact h.par_eq (by omega) (by omega) (by omega) (fun m h1 h2 => by
   by_cases c : m < k
   ·have := e3 m h1 c; omega
   ·by_cases c2 : m = k
    ·subst c2; omega
    ·have := f3 m (by omega) h2; omega)
theorem Nst.kids_end (h : Nst d n) {i : Nat} (hi : i < n) : kids d n i = kids d (en d n i) i := by
 obtain ⟨g1, g2, g3, g4⟩ := en_spec d hi;refine kids_same g2 fun k h1 h2 => decide_eq_false fun e => ?_
 obtain ⟨e1, e2, e3⟩ := h.kid h2 e;by_cases c : k = en d n i
 ·subst c; have := g4 h2; omega
 ·have := e3 (en d n i) g1 (by omega); have := g4 (by omega); omega
def lastP (q : Nat -> Bool) : Nat -> Int
 | 0 => -1
 | k + 1 => if q k = true then k else lastP q k
theorem lastP_spec (q : Nat -> Bool) : ∀ k, (lastP q k = -1 /\ ∀ m, m < k -> q m = false) \/ ∃ p : Nat, lastP q k = p /\ p < k /\ q p = true /\ ∀ m, p < m -> m < k -> q m = false
 | 0 => Or.inl ⟨rfl, fun m hm => by omega⟩
 | k + 1 => by
  unfold lastP;by_cases h : q k = true
  ·rw [if_pos h]; exact Or.inr ⟨k, rfl, by omega, h, fun m h1 h2 => by omega⟩
  ·rw [if_neg h];have h := Bool.eq_false_iff.2 h;rcases lastP_spec q k with ⟨h1, h2⟩ | ⟨p, h1, h2, h3, h4⟩
   ·refine Or.inl ⟨h1, fun m hm => ?_⟩;by_cases e : m = k
    ·subst e; exact h
    ·exact h2 m (by omega)
   ·refine Or.inr ⟨p, h1, by omega, h3, fun m hm hk => ?_⟩;by_cases e : m = k
    ·subst e; exact h
    ·exact h4 m hm (by omega)
theorem lastP_congr {q q' : Nat -> Bool} {k k' : Nat} (h : ∀ m, (m < k /\ q m = true) ↔ (m < k' /\ q' m = true)) : lastP q k = lastP q' k' := by
 rcases lastP_spec q k with ⟨h1, h2⟩ | ⟨p, h1, h2, h3, h4⟩ <;> rcases lastP_spec q' k' with ⟨g1, g2⟩ | ⟨r, g1, g2, g3, g4⟩
 ·rw [h1, g1]
 ·obtain ⟨a, b⟩ := (h r).2 ⟨g2, g3⟩;rw [h2 r a] at b; cases b
 ·obtain ⟨a, b⟩ := (h p).1 ⟨h2, h3⟩;rw [g2 p a] at b; cases b
 ·rw [h1, g1];have : p = r := by
   rcases Nat.lt_trichotomy p r with e | e | e
   ·obtain ⟨a, b⟩ := (h r).2 ⟨g2, g3⟩;rw [h4 r e a] at b; cases b
   ·exact e
   ·obtain ⟨a, b⟩ := (h p).1 ⟨h2, h3⟩;rw [g4 p e a] at b; cases b
  rw [this]
noncomputable def one (d kd : Nat -> Int) (t m : Nat) : Bool := decide (kd m = 2 /\ wi d m t)
noncomputable def up (d : Nat -> Int) (k m : Nat) : Bool := decide (m = k \/ wi d m k)
noncomputable def dom (d kd : Nat -> Int) (k t : Nat) : Int := lastP (fun m => up d k m && one d kd t m) (k + 1)
theorem dom_here {kd : Nat -> Int} {k t : Nat} (h : one d kd t k = true) : dom d kd k t = k := by
 unfold dom lastP;rw [if_pos (by simp [h, up])]
theorem Nst.dom_par (h : Nst d n) {kd : Nat -> Int} {k t p : Nat} (hk : k < n) (ho : one d kd t k = false) (hp : par d k = (p : Int)) : dom d kd k t = dom d kd p t := by
 obtain ⟨e1, e2, e3⟩ := h.kid hk hp;refine lastP_congr fun m => ?_
 simp only [Bool.and_eq_true, up, decide_eq_true_iff];constructor
 ·rintro ⟨h1, h2, h3⟩;rcases h2 with rfl | h2
  ·rw [ho] at h3; cases h3
  ·obtain ⟨q, hq, hr⟩ := (h.wi_par hk).1 h2;obtain rfl : p = q := by omega
   rcases hr with rfl | hr
   ·exact ⟨by omega, Or.inl rfl, h3⟩
   ·exact ⟨by have := hr.1; omega, Or.inr hr, h3⟩
 ·rintro ⟨h1, h2, h3⟩;have hw : wi d m k := (h.wi_par hk).2 ⟨p, hp, h2.imp Eq.symm id⟩;exact ⟨by have := hw.1; omega, Or.inr hw, h3⟩
theorem Nst.dom_none (h : Nst d n) {kd : Nat -> Int} {k t : Nat} (hk : k < n) (ho : one d kd t k = false) (hp : par d k = -1) : dom d kd k t = -1 := by
 unfold dom;rcases lastP_spec (fun m => up d k m && one d kd t m) (k + 1) with ⟨h1, _⟩ | ⟨m, _, h2, h3, _⟩
 ·exact h1
 ·simp only [Bool.and_eq_true, up, decide_eq_true_iff] at h3;rcases h3.1 with e | hw
  ·subst e;rw [ho] at h3;exact absurd h3.2 (by simp)
  ·obtain ⟨q, hq, _⟩ := (h.wi_par hk).1 hw;omega
theorem dom_spec {kd : Nat -> Int} (k t : Nat) : (dom d kd k t = -1 /\ ∀ m, m <= k -> up d k m = true -> one d kd t m = false) \/ ∃ p : Nat, dom d kd k t = p /\ p <= k /\ up d k p = true /\ one d kd t p = true /\ ∀ m, p < m -> m <= k -> up d k m = true -> one d kd t m = false := by
 unfold dom;rcases lastP_spec (fun m => up d k m && one d kd t m) (k + 1) with ⟨h1, h2⟩ | ⟨p, h1, h2, h3, h4⟩
 ·exact Or.inl ⟨h1, fun m hm hu => by have := h2 m (by omega); rw [hu] at this; simpa using this⟩
 ·simp only [Bool.and_eq_true] at h3;exact Or.inr ⟨p, h1, by omega, h3.1, h3.2, fun m h5 h6 hu => by have := h4 m h5 (by omega); rw [hu] at this; simpa using this⟩
end
def mayP (k c : Int) : Prop := k = 2 \/ (k = 3 /\ c <= 3)
def parentP (k : Int) : Prop := k = 2 \/ k = 3
def pastP (k : Int) : Prop := k = 5 \/ k = 6
instance {k c : Int} : Decidable (mayP k c) := by unfold mayP; infer_instance
instance {k : Int} : Decidable (parentP k) := by unfold parentP; infer_instance
instance {k : Int} : Decidable (pastP k) := by unfold pastP; infer_instance
def regs (d : Nat -> Int) : Nat -> Nat
 | 0 => 0
 | k + 1 => regs d k + if d k = 0 then 1 else 0
theorem regs_le (d : Nat -> Int) : ∀ k, regs d k <= k
 | 0 => Nat.le_refl _
 | k + 1 => by
  have := regs_le d k;unfold regs; split <;> omega
structure Fine (d kd : Nat -> Int) (i : Nat) : Prop where
 kind : 1 <= kd i /\ kd i <= 6
 region : d i = 0 -> kd i = 2
def Fil (d kd : Nat -> Int) (n i : Nat) : Prop := (∀ k ∈ kids d n i, mayP (kd i) (kd k)) /\ ((∃ k ∈ kids d n i, ¬ pastP (kd k)) ↔ parentP (kd i))
noncomputable instance {d kd : Nat -> Int} {n i : Nat} : Decidable (Fil d kd n i) := Classical.propDecidable _
structure RightP (d kd : Nat -> Int) (n : Nat) : Prop where
 pos : 1 <= n
 le : n <= 40
 nst : Nst d n
 fine : ∀ i, i < n -> Fine d kd i
 fil : ∀ i, i < n -> Fil d kd n i
 regs : regs d n <= 4
noncomputable instance {d kd : Nat -> Int} {n : Nat} : Decidable (RightP d kd n) := Classical.propDecidable _
noncomputable instance {d : Nat -> Int} {n : Nat} : Decidable (Nst d n) := Classical.propDecidable _
theorem fil_iff {d kd : Nat -> Int} {n : Nat} :
 (∀ i, i < n -> Fil d kd n i) ↔ (∀ k, k < n -> ∀ p : Nat, p < n -> par d k = (p : Int) -> mayP (kd p) (kd k)) /\ ∀ i, i < n -> parentP (kd i) -> ∃ k ∈ kids d n i, ¬ pastP (kd k) := by
 constructor
 ·intro h;refine ⟨fun k hk p hp e => (h p hp).1 k (mem_kids.2 ⟨hk, e⟩), fun i hi hp => (h i hi).2.2 hp⟩
 ·rintro ⟨h1, h2⟩ i hi;refine ⟨fun k hk => h1 k (mem_kids.1 hk).1 i hi (mem_kids.1 hk).2, fun ⟨k, hk, _⟩ => ?_, h2 i hi⟩;have := h1 k (mem_kids.1 hk).1 i hi (mem_kids.1 hk).2;rcases this with e | ⟨e, _⟩
  ·exact Or.inl e
  ·exact Or.inr e
end Go.Proofs.YtgjeofaedidnpaaGreatDoor.Tr
namespace Go.Proofs.YtgjeofaedidnpaaGreatDoor.Ch.Vd
abbrev KV := Go.Proofs.YtgjeofaedidnpaaGreatDoor.VM
def vm (v : VM) : KV := ⟨v.nm, v.kd, v.lo, v.hi, v.ik, v.ia, v.ib⟩
def vmL (c : CH) : List KV := c.vs.map vm
def dC (ss : List SC) (i : Nat) : Int := match ss[i]? with | some s => s.dp | none => 0
def kC (ss : List SC) (i : Nat) : Int := match ss[i]? with | some s => s.kd | none => 0
def iniC (ss : List SC) (i : Nat) : List UInt8 := match ss[i]? with | some s => s.ini | none => []
theorem kC_at {ss : List SC} {i : Nat} (h : i < ss.length) : kC ss i = ss[i].kd := by unfold kC; rw [List.getElem?_eq_getElem h]
theorem iniC_at {ss : List SC} {i : Nat} (h : i < ss.length) : iniC ss i = ss[i].ini := by unfold iniC; rw [List.getElem?_eq_getElem h]
def isS (n : List UInt8) (s : SC) : Bool := decide (s.nm = n)
def placeC (ss : List SC) (n : List UInt8) : Int := ixP (isS n) ss 0
def firF (f : Nat -> Int) : Nat -> Nat -> Int
 | 0, _ => 0
 | m + 1, k => if f k ≠ 0 then f k else firF f m (k + 1)
def firE (f : Nat -> Int) (n : Nat) : Int := firF f n 0
theorem firF_step (f : Nat -> Int) {n k : Nat} (hk : k < n) : firF f (n - k) k = if f k ≠ 0 then f k else firF f (n - (k + 1)) (k + 1) := by
 obtain ⟨m, hm⟩ : ∃ m, n - k = m + 1 := ⟨n - k - 1, by omega⟩
 rw [hm, show n - (k + 1) = m by omega]; rfl
theorem firF_end (f : Nat -> Int) {n k : Nat} (hk : ¬ k < n) : firF f (n - k) k = 0 := by rw [show n - k = 0 by omega]; rfl
theorem firF_zero (f : Nat -> Int) : ∀ m k, firF f m k = 0 ↔ ∀ i, k <= i -> i < k + m -> f i = 0
 | 0, k => ⟨fun _ i h1 h2 => by omega, fun _ => rfl⟩
 | m + 1, k => by
  unfold firF;by_cases h : f k ≠ 0
  ·rw [if_pos h];exact ⟨fun e => absurd e h, fun e => e k (Nat.le_refl _) (by omega)⟩
  ·rw [if_neg h, firF_zero f m (k + 1)];constructor
   ·intro e i h1 h2;by_cases hi : i = k
    ·subst hi; exact Classical.not_not.1 h
    ·exact e i (by omega) (by omega)
   ·exact fun e i h1 h2 => e i (by omega) (by omega)
theorem firE_zero {f : Nat -> Int} {n : Nat} : firE f n = 0 ↔ ∀ i, i < n -> f i = 0 := by
 unfold firE;rw [firF_zero];exact ⟨fun h i hi => h i (Nat.zero_le _) (by omega), fun h i _ hi => h i (by omega)⟩
def orE (a b : Int) : Int := if a ≠ 0 then a else b
theorem orE_zero {a b : Int} : orE a b = 0 ↔ a = 0 /\ b = 0 := by
 unfold orE;by_cases h : a = 0
 ·rw [if_neg (fun k => k h)]; exact ⟨fun k => ⟨h, k⟩, fun k => k.2⟩
 ·rw [if_pos h]; exact ⟨fun k => absurd k h, fun k => absurd k.1 h⟩
def unE (b : Bool) (e : Int) : Int := if b = true then 0 else e
def shortB (c : CH) : Bool := decide (c.es.length <= 12) && (decide (c.vs.length <= 8) && (decide (c.ss.length <= 40) && decide (c.ts.length <= 48)))
def varN (c : CH) : List (List UInt8) := c.vs.map VM.nm
def stN (c : CH) : List (List UInt8) := c.ss.map SC.nm
def namedB (c : CH) : Bool := nameB c.nm && (c.es.all nameB && ((varN c).all nameB && (stN c).all nameB))
def apartL (l : List (List UInt8)) : Bool := decide l.Nodup
def apartB (c : CH) : Bool := apartL c.es && (apartL (varN c) && apartL (stN c))
def beginP (ss : List SC) (i : Nat) (k : Int) : Prop :=
 k ≠ -1 /\ ¬ Tr.pastP (kC ss k.toNat) /\ ((kC ss i = 2 /\ Tr.par (dC ss) k.toNat = (i : Int)) \/ (kC ss i = 5 /\ Tr.par (dC ss) k.toNat = Tr.par (dC ss) i) \/ (kC ss i = 6 /\ Tr.wi (dC ss) (Tr.par (dC ss) i).toNat k.toNat))
noncomputable instance {ss : List SC} {i : Nat} {k : Int} : Decidable (beginP ss i k) := Classical.propDecidable _
noncomputable def initE (ss : List SC) (i : Nat) : Int :=
 if kC ss i ≠ 2 /\ ¬ Tr.pastP (kC ss i) then (if iniC ss i = [] then 0 else 1) else if beginP ss i (placeC ss (iniC ss i)) then 0 else 2
def bndB (v : VM) : Bool :=
 if v.kd = 2 then decide (v.lo = 0) && decide (v.hi = 1) else if v.kd = 3 then decide (-1048576 <= v.lo) && (decide (v.lo <= v.hi) && decide (v.hi <= 1048576)) else decide (-1099511627776 <= v.lo) && (decide (v.lo <= v.hi) && decide (v.hi <= 1099511627776))
def holdB (v : VM) (x : VA) : Bool := (decide (v.lo <= x.a) && decide (x.a <= v.hi)) && (decide (v.kd ≠ 3) || (decide (v.lo <= x.b) && decide (x.b <= v.hi)))
def inV (v : VM) : VA := ⟨v.ik, v.ia, v.ib⟩
def varE (v : VM) : Int := if ¬ (1 <= v.kd /\ v.kd <= 3) \/ v.ik ≠ v.kd then 8 else unE (bndB v && (rightV (inV v) && holdB v (inV v))) 5
def ofE (want : Int) (c : CH) (names : List (List UInt8)) (cs : List CM) : Int :=
 if (kindP (vmL c) names cs).2 ≠ 0 then (kindP (vmL c) names cs).2 else if (kindP (vmL c) names cs).1 = want then 0 else 8
def kdV (vs : List KV) (i : Int) : Int := match vs[i.toNat]? with | some v => v.kd | none => 0
def actE (c : CH) (a : AM) : Int :=
 if a.kd ≠ 1 then (if a.nm ∈ c.es then 0 else 2) else if ixP (isV a.nm) (vmL c) 0 = -1 then 2 else ofE (kdV (vmL c) (ixP (isV a.nm) (vmL c) 0)) c [] a.ex
def actAt (c : CH) (l : List AM) (i : Nat) : Int := match l[i]? with | some a => actE c a | none => 0
def blockE (c : CH) (l : List AM) : Int := if l = [] then 0 else if rightA l = false then 1 else firE (actAt c l) l.length
def blocksE (c : CH) (s : SC) : Int := if (Tr.pastP s.kd /\ s.en ≠ []) \/ ((Tr.pastP s.kd \/ s.kd = 4) /\ s.ex ≠ []) then 1 else orE (blockE c s.en) (blockE c s.ex)
def blocksAt (c : CH) (i : Nat) : Int := match c.ss[i]? with | some s => blocksE c s | none => 0
def varAt (c : CH) (i : Nat) : Int := match c.vs[i]? with | some v => varE v | none => 0
def nhC (ss : List SC) : List (List UInt8) := (ss.filter fun s => !decide (Tr.pastP s.kd)).map SC.nm
def guardE (c : CH) (l : List CM) : Int := if l = [] then 0 else ofE 2 c (nhC c.ss) l
def wError : List UInt8 := [101, 114, 114, 111, 114]
def wDone : List UInt8 := [100, 111, 110, 101, 46]
def waitP (c : CH) (e : List UInt8) : Prop := e = [] \/ e = wError \/ e ∈ c.es \/ ∃ s ∈ c.ss, Tr.parentP s.kd /\ e = wDone ++ s.nm
noncomputable instance {c : CH} {e : List UInt8} : Decidable (waitP c e) := Classical.propDecidable _
noncomputable def targE (c : CH) (t : TC) : Int :=
 if t.to = [] then 0 else if placeC c.ss t.to = -1 then 2 else if Tr.dom (dC c.ss) (kC c.ss) t.fr.toNat (placeC c.ss t.to).toNat ≠ -1 then 0 else 9
noncomputable def tE (c : CH) (t : TC) : Int := if ¬ waitP c t.ev then 2 else orE (guardE c t.gd) (orE (targE c t) (blockE c t.ac))
def frC (ts : List TC) (i : Nat) : Int := match ts[i]? with | some t => t.fr | none => 0
def fromP (c : CH) (t : TC) : Prop := 0 <= t.fr /\ t.fr < c.ss.length /\ (kC c.ss t.fr.toNat = 1 \/ Tr.parentP (kC c.ss t.fr.toNat))
def standP (c : CH) (i : Nat) : Prop := match c.ts[i]? with | some t => fromP c t /\ (0 < i -> frC c.ts (i - 1) <= t.fr) | none => False
noncomputable instance {c : CH} {i : Nat} : Decidable (standP c i) := Classical.propDecidable _
noncomputable def transE (c : CH) (i : Nat) : Int := if ¬ standP c i then 1 else match c.ts[i]? with | some t => tE c t | none => 0
def treeP (c : CH) : Prop := Tr.RightP (dC c.ss) (kC c.ss) c.ss.length
noncomputable instance {c : CH} : Decidable (treeP c) := Classical.propDecidable _
noncomputable def partsE (c : CH) : Int := orE (firE (initE c.ss) c.ss.length) (orE (firE (varAt c) c.vs.length) (orE (firE (blocksAt c) c.ss.length) (firE (transE c) c.ts.length)))
noncomputable def checkE (c : CH) : Int :=
 if shortB c = false then 4 else if namedB c = false then 2 else if apartB c = false then 3 else if ¬ treeP c then 9 else partsE c
structure Valid (c : CH) : Prop where
 short : shortB c = true
 named : namedB c = true
 apart : apartB c = true
 tree : treeP c
 init : ∀ i, i < c.ss.length -> initE c.ss i = 0
 vars : ∀ v ∈ c.vs, varE v = 0
 blocks : ∀ s ∈ c.ss, blocksE c s = 0
 stand : ∀ i, i < c.ts.length -> standP c i
 trans : ∀ t ∈ c.ts, tE c t = 0
theorem check_zero {c : CH} : checkE c = 0 ↔ Valid c := by
 unfold checkE;constructor
 ·intro h;by_cases h1 : shortB c = false
  ·rw [if_pos h1] at h; cases h
  rw [if_neg h1] at h;by_cases h2 : namedB c = false
  ·rw [if_pos h2] at h; cases h
  rw [if_neg h2] at h;by_cases h3 : apartB c = false
  ·rw [if_pos h3] at h; cases h
  rw [if_neg h3] at h;by_cases h4 : ¬ treeP c
  ·rw [if_pos h4] at h; cases h
  rw [if_neg h4] at h;unfold partsE at h;rw [orE_zero, orE_zero, orE_zero, firE_zero, firE_zero, firE_zero, firE_zero] at h;obtain ⟨a, b, d, e⟩ := h;have hst : ∀ i, i < c.ts.length -> standP c i := fun i hi => by
   have := e i hi;unfold transE at this;by_cases hs : ¬ standP c i
   ·rw [if_pos hs] at this; cases this
   ·exact Classical.not_not.1 hs
  refine ⟨by simpa using h1, by simpa using h2, by simpa using h3, Classical.not_not.1 h4, a, fun v hv => ?_, fun s hs => ?_, hst, fun t ht => ?_⟩
  ·obtain ⟨i, hi, rfl⟩ := List.getElem_of_mem hv;have := b i hi;unfold varAt at this
   rwa [List.getElem?_eq_getElem hi] at this
  ·obtain ⟨i, hi, rfl⟩ := List.getElem_of_mem hs;have := d i hi;unfold blocksAt at this
   rwa [List.getElem?_eq_getElem hi] at this
  ·obtain ⟨i, hi, rfl⟩ := List.getElem_of_mem ht;have := e i hi;unfold transE at this;rw [if_neg (fun k => k (hst i hi)), List.getElem?_eq_getElem hi] at this;exact this
 ·intro h;rw [if_neg (by rw [h.short]; decide), if_neg (by rw [h.named]; decide), if_neg (by rw [h.apart]; decide), if_neg (fun k => k h.tree)];unfold partsE;rw [orE_zero, orE_zero, orE_zero, firE_zero, firE_zero, firE_zero, firE_zero];refine ⟨h.init, fun i hi => ?_, fun i hi => ?_, fun i hi => ?_⟩
  ·unfold varAt; rw [List.getElem?_eq_getElem hi]; exact h.vars _ (List.getElem_mem hi)
  ·unfold blocksAt; rw [List.getElem?_eq_getElem hi]; exact h.blocks _ (List.getElem_mem hi)
  ·unfold transE; rw [if_neg (fun k => k (h.stand i hi)), List.getElem?_eq_getElem hi]; exact h.trans _ (List.getElem_mem hi)
end Go.Proofs.YtgjeofaedidnpaaGreatDoor.Ch.Vd
namespace Go.Proofs.YtgjeofaedidnpaaGreatDoor
open Go.RowKit
def ParsedPost (l : List AM) (er : Int) (w : World) (e : Ending) (w' : World) : Prop :=
 ∃ v ps, e = .returned (.tuple #[v, .int .i64 er]) /\ ps.map Prod.fst = l /\ w'.ownsRow w.heap.size 90 3 v ps.length (flatA ps) /\ (∀ p ∈ ps, ActO w.heap.size w' p) /\ Below w.heap.size w w'
end Go.Proofs.YtgjeofaedidnpaaGreatDoor
namespace Go.Proofs.YtgjeofaedidnpaaGreatDoor.Ch
open Go.RowKit
def vaV (v : VM) : List Value := [bstr v.nm, .int .i64 v.kd, .int .i64 v.lo, .int .i64 v.hi, .int .i64 v.ik, .int .i64 v.ia, .int .i64 v.ib]
def flatV (vs : List VM) : List Value := vs.flatMap vaV
abbrev SP := SC × Value × Value
def stV (p : SP) : List Value := [bstr p.1.nm, .int .i64 p.1.kd, .int .i64 p.1.dp, bstr p.1.ini, p.2.1, p.2.2]
def flatS (ps : List SP) : List Value := ps.flatMap stV
abbrev TP := TC × Value × Value
def trV (p : TP) : List Value := [.int .i64 p.1.fr, bstr p.1.ev, p.2.1, bstr p.1.to, p.2.2]
def flatT (ps : List TP) : List Value := ps.flatMap trV
def strsV (l : List (List UInt8)) : List Value := l.map bstr
theorem flatM_at {α : Type} (f : α -> List Value) (k : Nat) (hf : ∀ a, (f a).length = k) {l : List α} {i : Nat} (h : i < l.length) {j : Nat} (hj : j < k) : (l.flatMap f)[i * k + j]? = (f l[i])[j]? := by
 induction l generalizing i with
 | nil => simp at h
 | cons a r ih =>
  rw [List.flatMap_cons];cases i with
  | zero => rw [List.getElem?_append_left (by rw [hf]; omega)]; simp
  | succ q =>
   rw [List.getElem?_append_right (by rw [hf, Nat.succ_mul]; omega), hf];have e : (q + 1) * k + j - k = q * k + j := by rw [Nat.succ_mul]; omega
   rw [e];exact ih (by simpa using h)
theorem Tryz.infoVar : (Tryz.prog.info? 51).map (fun i => (i.zero, i.size, i.bytes)) = some (some (.agg #[.string ByteArray.empty, .int .i64 0, .int .i64 0, .int .i64 0, .int .i64 0, .int .i64 0, .int .i64 0]), 7, 64) := by kernel_rfl
theorem Tryz.infoState : (Tryz.prog.info? 39).map (fun i => (i.zero, i.size, i.bytes)) = some (some (.agg #[.string ByteArray.empty, .int .i64 0, .int .i64 0, .string ByteArray.empty, .slice none 0 0, .slice none 0 0]), 6, 96) := by kernel_rfl
theorem Tryz.infoTrans : (Tryz.prog.info? 42).map (fun i => (i.zero, i.size, i.bytes)) = some (some (.agg #[.int .i64 0, .string ByteArray.empty, .slice none 0 0, .string ByteArray.empty, .slice none 0 0]), 5, 88) := by kernel_rfl
def KeepI (w w' : World) : Prop := w.heap.size <= w'.heap.size /\ ∀ (k : Nat) (cur : Array Value) (t : TypeId), (t = 90 \/ t = 144) -> w.heap[k]? = some (Obj.cells cur t (0, 0)) -> w'.heap[k]? = some (Obj.cells cur t (0, 0))
theorem lt_of_heap {w : World} {k : Nat} {o : Obj} (h : w.heap[k]? = some o) : k < w.heap.size := (Array.getElem?_eq_some_iff.1 h).1
theorem KeepI.of_below {w w' : World} (h : Below w.heap.size w w') : KeepI w w' := ⟨h.size, fun k _ _ _ hk => (h.block k (lt_of_heap hk)).trans hk⟩
theorem KeepI.of_grown {w w' : World} {g : Nat} {cur : Array Value} {t : TypeId} {z : Nat × Nat} (h : w.grownBy w' (some g)) (hg : w.heap[g]? = some (.cells cur t z)) (h1 : t ≠ 90) (h2 : t ≠ 144) : KeepI w w' :=
 ⟨h.size, fun k cur' t' ht hk => (h.block k (lt_of_heap hk) (fun e => by
  have e := Option.some.inj e;subst e;rw [hg] at hk;injection hk with hk
  injection hk with _ hk _
  subst hk;rcases ht with ht | ht
  ·exact h1 ht
  ·exact h2 ht)).trans hk⟩
theorem KeepI.own {w w' : World} {B : Nat} {e : TypeId} {size n : Nat} {v : Value} {xs : List Value} (hk : KeepI w w') (h : w.ownsRow B e size v n xs) (he : e = 90 \/ e = 144) : w'.ownsRow B e size v n xs := by
 obtain ⟨h0, h | ⟨g, cap, cur, h1, h2, h3, h4⟩⟩ := h
 ·exact ⟨h0, Or.inl h⟩
 ·exact ⟨h0, Or.inr ⟨g, cap, cur, h1, h2, hk.2 g cur e he h3, h4⟩⟩
def BlkO (B : Nat) (w : World) (v : Value) (l : List AM) : Prop := ∃ al : List AP, al.map Prod.fst = l /\ w.ownsRow B 90 3 v al.length (flatA al) /\ ∀ p ∈ al, ActO B w p
theorem BlkO.keep {B : Nat} {w w' : World} {v : Value} {l : List AM} (h : BlkO B w v l) (hk : KeepI w w') : BlkO B w' v l := by
 obtain ⟨al, h1, h2, h3⟩ := h;exact ⟨al, h1, hk.own h2 (Or.inl rfl), fun p hp => ⟨hk.own (h3 p hp).own (Or.inr rfl), (h3 p hp).len, (h3 p hp).names, (h3 p hp).name⟩⟩
theorem BlkO.nil (B : Nat) (w : World) : BlkO B w (.slice none 0 0) [] := ⟨[], rfl, World.ownsRow_nil _ _ _ _, fun p hp => by cases hp⟩
theorem BlkO.form {B : Nat} {w : World} {v : Value} {l : List AM} (h : BlkO B w v l) : ∃ A c, v = .slice A l.length c := by
 obtain ⟨al, h1, h2, _⟩ := h;obtain ⟨A, c, e⟩ := own_slice h2;exact ⟨A, c, by rw [e, <- h1, List.length_map]⟩
structure GdO (B : Nat) (w : World) (v : Value) (cs : List CM) : Prop where
 own : w.ownsRow B 144 3 v cs.length (flat cs)
 len : cs.length * 32 <= 140737488355328
 names : Names cs
theorem GdO.keep {B : Nat} {w w' : World} {v : Value} {cs : List CM} (h : GdO B w v cs) (hk : KeepI w w') : GdO B w' v cs := ⟨hk.own h.own (Or.inr rfl), h.len, h.names⟩
theorem GdO.nil (B : Nat) (w : World) : GdO B w (.slice none 0 0) [] := ⟨World.ownsRow_nil _ _ _ _, by simp, fun c hc => by cases hc⟩
structure KeptB (b B : Nat) (w w' : World) : Prop where
 os : w'.os = w.os
 tape : w'.tape = w.tape
 output : w'.output = w.output
 size : w.heap.size <= w'.heap.size
 block : ∀ k, k < B -> k ≠ b -> w'.heap[k]? = w.heap[k]?
 others : ∀ (k : Nat) (o : Obj), w.heap[k]? = some o -> o.isCells = false -> w'.heap[k]? = some o
theorem KeptB.trans {b B : Nat} {x y z : World} (h : KeptB b B x y) (k : KeptB b B y z) : KeptB b B x z :=
 ⟨k.os.trans h.os, k.tape.trans h.tape, k.output.trans h.output, Nat.le_trans h.size k.size, fun i hi hb => (k.block i hi hb).trans (h.block i hi hb), fun i o h1 h2 => k.others i o (h.others i o h1 h2) h2⟩
theorem KeptB.of_below {b B : Nat} {w w' : World} (h : Below w.heap.size w w') (hB : B <= w.heap.size) : KeptB b B w w' := ⟨h.os, h.tape, h.output, h.size, fun k hk _ => h.block k (Nat.lt_of_lt_of_le hk hB), fun k _ h1 _ => (h.block k (lt_of_heap h1)).trans h1⟩
theorem KeptB.of_grown {b B : Nat} {w w' : World} {row : Option Nat} (h : w.grownBy w' row) (hB : B <= w.heap.size) (hr : ∀ g, row = some g -> g = b \/ B <= g) (hc : ∀ g, row = some g -> ∃ (cur : Array Value) (t : TypeId) (z : Nat × Nat), w.heap[g]? = some (.cells cur t z)) : KeptB b B w w' :=
 ⟨h.os, h.tape, h.output, h.size, fun k hk hb => h.block k (Nat.lt_of_lt_of_le hk hB) (fun e => by rcases hr k e.symm with h | h <;> omega), fun k o h1 h2 => (h.block k (lt_of_heap h1) (fun e => by obtain ⟨_, _, _, h3⟩ := hc k e.symm; rw [h3] at h1; cases h1; cases h2)).trans h1⟩
theorem KeptB.below {b B B0 : Nat} {w w' : World} (h : KeptB b B w w') (h1 : B0 <= b) (h2 : B0 <= B) : Below B0 w w' := ⟨h.os, h.tape, h.output, h.size, fun k hk => h.block k (by omega) (by omega)⟩
structure OwnCh (b B : Nat) (t : TypeId) (w : World) (c : CH) (eV vV sV tV : Value) (sp : List SP) (tp : List TP) : Prop where
 box : w.heap[b]? = some (.cells #[bstr c.nm, eV, vV, sV, tV] t (0, 0))
 lt : b < B
 le : B <= w.heap.size
 es : w.ownsRow B 9 1 eV c.es.length (strsV c.es)
 vs : w.ownsRow B 51 7 vV c.vs.length (flatV c.vs)
 ssE : sp.map Prod.fst = c.ss
 ss : w.ownsRow B 39 6 sV sp.length (flatS sp)
 tsE : tp.map Prod.fst = c.ts
 ts : w.ownsRow B 42 5 tV tp.length (flatT tp)
 sd : ∀ p ∈ sp, BlkO B w p.2.1 p.1.en /\ BlkO B w p.2.2 p.1.ex
 td : ∀ p ∈ tp, GdO B w p.2.1 p.1.gd /\ BlkO B w p.2.2 p.1.ac
def Rdr (b B : Nat) (t : TypeId) (w : World) (c : CH) : Prop := ∃ eV vV sV tV sp tp, OwnCh b B t w c eV vV sV tV sp tp
section
variable {b B : Nat} {t : TypeId} {w w' : World} {c : CH} {eV vV sV tV : Value} {sp : List SP} {tp : List TP}
theorem OwnCh.below (h : OwnCh b B t w c eV vV sV tV sp tp) (hb : Below w.heap.size w w') : OwnCh b B t w' c eV vV sV tV sp tp := by
 have hk := KeepI.of_below hb;exact ⟨(hb.block b (Nat.lt_of_lt_of_le h.lt h.le)).trans h.box, h.lt, Nat.le_trans h.le hb.size, own_below h.es hb, own_below h.vs hb, h.ssE, own_below h.ss hb, h.tsE, own_below h.ts hb,
  fun p hp => ⟨(h.sd p hp).1.keep hk, (h.sd p hp).2.keep hk⟩, fun p hp => ⟨(h.td p hp).1.keep hk, (h.td p hp).2.keep hk⟩⟩
theorem OwnCh.cells (h : OwnCh b B t w c eV vV sV tV sp tp) : w.cell? ⟨b, 0, none⟩ = some (bstr c.nm) /\ w.cell? ⟨b, 1, none⟩ = some eV /\ w.cell? ⟨b, 2, none⟩ = some vV /\ w.cell? ⟨b, 3, none⟩ = some sV /\ w.cell? ⟨b, 4, none⟩ = some tV := by
 have := h.box;refine ⟨?_, ?_, ?_, ?_, ?_⟩ <;> (unfold World.cell?; rw [this]; rfl)
theorem OwnCh.frozen (h : OwnCh b B t w c eV vV sV tV sp tp) (j : Nat) : w.frozen? ⟨b, j, none⟩ = false := by simp [World.frozen?, h.box]
end
end Go.Proofs.YtgjeofaedidnpaaGreatDoor.Ch
namespace Go.Proofs.YtgjeofaedidnpaaGreatDoor.Ch
open Go.RowKit
def BlkR (w : World) (v : Value) (l : List AM) : Prop := ∃ ps : List AP, ps.map Prod.fst = l /\ RdA w v ps /\ ps.length <= 9223372036854775807
theorem BlkR.below {w w' : World} {v : Value} {l : List AM} (h : BlkR w v l) (hb : Below w.heap.size w w') : BlkR w' v l := by
 obtain ⟨ps, h1, h2, h3⟩ := h; exact ⟨ps, h1, h2.below hb, h3⟩
def GdR (w : World) (v : Value) (cs : List CM) : Prop := RdI w v cs /\ cs.length * 32 <= 140737488355328
theorem GdR.below {w w' : World} {v : Value} {cs : List CM} (h : GdR w v cs) (hb : Below w.heap.size w w') : GdR w' v cs := ⟨h.1.below hb, h.2⟩
def StR (w : World) (p : SP) : Prop := BlkR w p.2.1 p.1.en /\ BlkR w p.2.2 p.1.ex
def TrR (w : World) (p : TP) : Prop := GdR w p.2.1 p.1.gd /\ BlkR w p.2.2 p.1.ac
theorem StR.below {w w' : World} {p : SP} (h : StR w p) (hb : Below w.heap.size w w') : StR w' p := ⟨h.1.below hb, h.2.below hb⟩
theorem TrR.below {w w' : World} {p : TP} (h : TrR w p) (hb : Below w.heap.size w w') : TrR w' p := ⟨h.1.below hb, h.2.below hb⟩
structure ChM (w : World) (c : CH) (eV vV sV tV : Value) (sp : List SP) (tp : List TP) : Prop where
 es : Inn w 1 eV c.es.length (strsV c.es)
 vs : Inn w 7 vV c.vs.length (flatV c.vs)
 ssE : sp.map Prod.fst = c.ss
 ss : Inn w 6 sV sp.length (flatS sp)
 tsE : tp.map Prod.fst = c.ts
 ts : Inn w 5 tV tp.length (flatT tp)
 sd : ∀ p ∈ sp, StR w p
 td : ∀ p ∈ tp, TrR w p
 el : c.es.length <= 9223372036854775807
 vl : c.vs.length <= 9223372036854775807
 sl : sp.length <= 9223372036854775807
 tl : tp.length <= 9223372036854775807
theorem ChM.below {w w' : World} {c : CH} {eV vV sV tV : Value} {sp : List SP} {tp : List TP} (h : ChM w c eV vV sV tV sp tp) (hb : Below w.heap.size w w') : ChM w' c eV vV sV tV sp tp :=
 ⟨h.es.below hb, h.vs.below hb, h.ssE, h.ss.below hb, h.tsE, h.ts.below hb, fun p hp => (h.sd p hp).below hb, fun p hp => (h.td p hp).below hb, h.el, h.vl, h.sl, h.tl⟩
end Go.Proofs.YtgjeofaedidnpaaGreatDoor.Ch
