/- Trees as depths and kinds: parents, ends, what is within, children, roots, domains; what is right. No program is named here. -/
import Derived.ProofKit
namespace Go.Proofs.Ytpmgleioldlolaa

/-- the nearest ahead of i, below k, that isn't as deep -/
def parF (d : Nat → Int) (i : Nat) : Nat → Int
  | 0 => -1
  | k + 1 => if d i ≤ d k then parF d i k else k
def par (d : Nat → Int) (i : Nat) : Int := parF d i i
theorem parF_zero (d : Nat → Int) (i : Nat) : parF d i 0 = -1 := rfl
theorem parF_succ (d : Nat → Int) (i k : Nat) : parF d i (k + 1) = if d i ≤ d k then parF d i k else (k : Int) := rfl
/-- the last one ahead of i, below k, that is one less deep -/
def lasF (d : Nat → Int) (i : Nat) : Nat → Int
  | 0 => -1
  | k + 1 => if d k = d i - 1 then k else lasF d i k
theorem lasF_zero (d : Nat → Int) (i : Nat) : lasF d i 0 = -1 := rfl
theorem lasF_succ (d : Nat → Int) (i k : Nat) : lasF d i (k + 1) = if d k = d i - 1 then (k : Int) else lasF d i k := rfl
/-- the first place from k on, within f more, that isn't deeper than i -/
def endF (d : Nat → Int) (i : Nat) : Nat → Nat → Nat
  | 0, k => k
  | f + 1, k => if d i < d k then endF d i f (k + 1) else k
theorem endF_zero (d : Nat → Int) (i k : Nat) : endF d i 0 k = k := rfl
theorem endF_succ (d : Nat → Int) (i f k : Nat) : endF d i (f + 1) k = if d i < d k then endF d i f (k + 1) else k := rfl
def en (d : Nat → Int) (n i : Nat) : Nat := endF d i (n - (i + 1)) (i + 1)

theorem parF_spec (d : Nat → Int) (i : Nat) : ∀ k, (parF d i k = -1 ∧ ∀ m, m < k → d i ≤ d m) ∨ ∃ p : Nat, parF d i k = p ∧ p < k ∧ d p < d i ∧ ∀ m, p < m → m < k → d i ≤ d m
  | 0 => Or.inl ⟨rfl, fun m hm => by omega⟩
  | k + 1 => by
    rw [parF_succ]
    by_cases h : d i ≤ d k
    · rw [if_pos h]
      rcases parF_spec d i k with ⟨h1, h2⟩ | ⟨p, h1, h2, h3, h4⟩
      · refine Or.inl ⟨h1, fun m hm => ?_⟩
        by_cases e : m = k
        · subst e; exact h
        · exact h2 m (by omega)
      · refine Or.inr ⟨p, h1, by omega, h3, fun m hm hk => ?_⟩
        by_cases e : m = k
        · subst e; exact h
        · exact h4 m hm (by omega)
    · rw [if_neg h]
      exact Or.inr ⟨k, rfl, by omega, by omega, fun m h1 h2 => by omega⟩
theorem lasF_spec (d : Nat → Int) (i : Nat) : ∀ k, (lasF d i k = -1 ∧ ∀ m, m < k → d m ≠ d i - 1) ∨ ∃ p : Nat, lasF d i k = p ∧ p < k ∧ d p = d i - 1 ∧ ∀ m, p < m → m < k → d m ≠ d i - 1
  | 0 => Or.inl ⟨rfl, fun m hm => by omega⟩
  | k + 1 => by
    rw [lasF_succ]
    by_cases h : d k = d i - 1
    · rw [if_pos h]
      exact Or.inr ⟨k, rfl, by omega, h, fun m h1 h2 => by omega⟩
    · rw [if_neg h]
      rcases lasF_spec d i k with ⟨h1, h2⟩ | ⟨p, h1, h2, h3, h4⟩
      · refine Or.inl ⟨h1, fun m hm => ?_⟩
        by_cases e : m = k
        · subst e; exact h
        · exact h2 m (by omega)
      · refine Or.inr ⟨p, h1, by omega, h3, fun m hm hk => ?_⟩
        by_cases e : m = k
        · subst e; exact h
        · exact h4 m hm (by omega)
theorem endF_spec (d : Nat → Int) (i : Nat) : ∀ f k, k ≤ endF d i f k ∧ endF d i f k ≤ k + f ∧ (∀ m, k ≤ m → m < endF d i f k → d i < d m) ∧ (endF d i f k < k + f → d (endF d i f k) ≤ d i)
  | 0, k => ⟨Nat.le_refl _, Nat.le_refl _, fun m h1 h2 => by rw [endF_zero] at h2; omega, fun h => by rw [endF_zero] at h; omega⟩
  | f + 1, k => by
    rw [endF_succ]
    by_cases h : d i < d k
    · rw [if_pos h]
      obtain ⟨h1, h2, h3, h4⟩ := endF_spec d i f (k + 1)
      refine ⟨by omega, by omega, fun m hm hk => ?_, fun hk => h4 (by omega)⟩
      by_cases e : m = k
      · subst e; exact h
      · exact h3 m (by omega) hk
    · rw [if_neg h]
      exact ⟨Nat.le_refl _, by omega, fun m h1 h2 => by omega, fun _ => by omega⟩
theorem en_spec (d : Nat → Int) {n i : Nat} (hi : i < n) : i < en d n i ∧ en d n i ≤ n ∧ (∀ m, i < m → m < en d n i → d i < d m) ∧ (en d n i < n → d (en d n i) ≤ d i) := by
  obtain ⟨h1, h2, h3, h4⟩ := endF_spec d i (n - (i + 1)) (i + 1)
  have e : i + 1 + (n - (i + 1)) = n := by omega
  rw [e] at h2 h4
  exact ⟨by unfold en; omega, h2, fun m hm hk => h3 m (by omega) hk, h4⟩
theorem en_eq {d : Nat → Int} {n i e : Nat} (hi : i < n) (h1 : i < e) (h2 : e ≤ n) (h3 : ∀ m, i < m → m < e → d i < d m) (h4 : e < n → d e ≤ d i) : en d n i = e := by
  obtain ⟨g1, g2, g3, g4⟩ := en_spec d hi
  rcases Nat.lt_trichotomy (en d n i) e with h | h | h
  · have := h3 _ g1 h; have := g4 (by omega); omega
  · exact h
  · have := g3 _ h1 h; have := h4 (by omega); omega

/-- states that may stand behind one another -/
structure Nst (d : Nat → Int) (n : Nat) : Prop where
  lo : ∀ i, i < n → 0 ≤ d i
  hi : ∀ i, i < n → d i < 6
  first : 0 < n → d 0 ≤ 0
  step : ∀ i, i + 1 < n → d (i + 1) ≤ d i + 1

section
variable {d : Nat → Int} {n : Nat}
theorem Nst.nearest (h : Nst d n) {i : Nat} (hi : i < n) : (par d i = -1 ∧ d i = 0) ∨ ∃ p : Nat, par d i = p ∧ p < i ∧ d p = d i - 1 ∧ ∀ m, p < m → m < i → d i ≤ d m := by
  rcases parF_spec d i i with ⟨h1, h2⟩ | ⟨p, h1, h2, h3, h4⟩
  · refine Or.inl ⟨h1, ?_⟩
    have h0 := h.lo i hi
    have hf := h.first (by omega)
    rcases Nat.eq_zero_or_pos i with e | e
    · subst e; omega
    · have := h2 0 e; omega
  · refine Or.inr ⟨p, h1, h2, ?_, h4⟩
    have hs := h.step p (by omega)
    by_cases e : p + 1 = i
    · rw [e] at hs; omega
    · have := h4 (p + 1) (by omega) (by omega); omega
theorem Nst.las (h : Nst d n) {i : Nat} (hi : i < n) : lasF d i i = par d i := by
  rcases h.nearest hi with ⟨h1, h2⟩ | ⟨p, h1, h2, h3, h4⟩
  · rw [h1]
    rcases lasF_spec d i i with ⟨g1, _⟩ | ⟨q, g1, g2, g3, _⟩
    · exact g1
    · have := h.lo q (by omega); omega
  · rw [h1]
    rcases lasF_spec d i i with ⟨g1, g2⟩ | ⟨q, g1, g2, g3, g4⟩
    · exact absurd h3 (g2 p h2)
    · rw [g1]
      have : q = p := by
        rcases Nat.lt_trichotomy q p with e | e | e
        · exact absurd h3 (g4 p e h2)
        · exact e
        · have := h4 q e g2; omega
      rw [this]
theorem Nst.par_neg (h : Nst d n) {i : Nat} (hi : i < n) : par d i = -1 ↔ d i = 0 := by
  rcases h.nearest hi with ⟨h1, h2⟩ | ⟨p, h1, h2, h3, h4⟩
  · simp [h1, h2]
  · have := h.lo p (by omega)
    constructor
    · intro e; omega
    · intro e; omega
theorem Nst.par_eq (h : Nst d n) {i p : Nat} (hi : i < n) (hp : p < i) (h1 : d p < d i) (h2 : ∀ m, p < m → m < i → d i ≤ d m) : par d i = p := by
  rcases h.nearest hi with ⟨g1, g2⟩ | ⟨q, g1, g2, g3, g4⟩
  · have := h.lo p (by omega); omega
  · rw [g1]
    rcases Nat.lt_trichotomy q p with e | e | e
    · have := g4 p e hp; omega
    · rw [e]
    · have := h2 q e g2; omega

/-- j is within i -/
def wi (d : Nat → Int) (i j : Nat) : Prop := i < j ∧ ∀ m, i < m → m ≤ j → d i < d m
theorem wi_iff {i j : Nat} (hi : i < n) (hj : j < n) : wi d i j ↔ i < j ∧ j < en d n i := by
  obtain ⟨g1, g2, g3, g4⟩ := en_spec d hi
  constructor
  · intro ⟨h1, h2⟩
    refine ⟨h1, ?_⟩
    by_cases h : en d n i ≤ j
    · have := h2 _ g1 h; have := g4 (by omega); omega
    · omega
  · intro ⟨h1, h2⟩
    exact ⟨h1, fun m hm hk => g3 m hm (by omega)⟩
noncomputable instance {i j : Nat} : Decidable (wi d i j) := Classical.propDecidable _
theorem Nst.wi_par (h : Nst d n) {i j : Nat} (hj : j < n) : wi d i j ↔ ∃ p : Nat, par d j = p ∧ (p = i ∨ wi d i p) := by
  rcases h.nearest hj with ⟨g1, g2⟩ | ⟨p, g1, g2, g3, g4⟩
  · constructor
    · intro ⟨h1, h2⟩
      have := h2 j h1 (Nat.le_refl _); have := h.lo i (by omega); omega
    · rintro ⟨p, hp, _⟩; omega
  · constructor
    · intro ⟨h1, h2⟩
      refine ⟨p, g1, ?_⟩
      rcases Nat.lt_trichotomy p i with e | e | e
      · have := g4 i e h1; have := h2 j h1 (Nat.le_refl _); omega
      · exact Or.inl e
      · exact Or.inr ⟨e, fun m hm hk => h2 m hm (by omega)⟩
    · rintro ⟨q, hq, hr⟩
      rw [g1] at hq
      obtain rfl : p = q := by omega
      rcases hr with rfl | ⟨h1, h2⟩
      · refine ⟨g2, fun m hm hk => ?_⟩
        by_cases e : m = j
        · subst e; omega
        · have := g4 m hm (by omega); omega
      · refine ⟨by omega, fun m hm hk => ?_⟩
        by_cases e : m ≤ p
        · exact h2 m hm e
        · have := h2 p h1 (Nat.le_refl _)
          by_cases e2 : m = j
          · subst e2; omega
          · have := g4 m (by omega) (by omega); omega
theorem wi_trans {i j k : Nat} (h1 : wi d i j) (h2 : wi d j k) : wi d i k := by
  refine ⟨by have := h1.1; have := h2.1; omega, fun m hm hk => ?_⟩
  by_cases e : m ≤ j
  · exact h1.2 m hm e
  · have := h2.2 m (by omega) hk; have := h1.2 j h1.1 (Nat.le_refl _); omega

/-- children below m -/
def kidB (d : Nat → Int) (i : Nat) (k : Nat) : Bool := decide (par d k = (i : Int))
def kids (d : Nat → Int) (m i : Nat) : List Nat := (List.range m).filter (kidB d i)
theorem kids_succ (d : Nat → Int) (m i : Nat) : kids d (m + 1) i = kids d m i ++ (if kidB d i m = true then [m] else []) := by
  unfold kids
  rw [List.range_succ, List.filter_append]
  congr 1
  cases h : kidB d i m <;> simp [h]
theorem kids_to {i : Nat} : ∀ (g m : Nat), (∀ k, m ≤ k → k < m + g → kidB d i k = false) → kids d (m + g) i = kids d m i
  | 0, m, _ => rfl
  | g + 1, m, h => by
    rw [show m + (g + 1) = (m + g) + 1 by omega, kids_succ, kids_to g m (fun k h1 h2 => h k h1 (by omega)), h (m + g) (by omega) (by omega)]
    simp
theorem kids_same {i m m' : Nat} (hm : m ≤ m') (h : ∀ k, m ≤ k → k < m' → kidB d i k = false) : kids d m' i = kids d m i := by
  have := kids_to (d := d) (i := i) (m' - m) m (fun k h1 h2 => h k h1 (by omega))
  rwa [show m + (m' - m) = m' by omega] at this
theorem mem_kids {i m k : Nat} : k ∈ kids d m i ↔ k < m ∧ par d k = (i : Int) := by
  unfold kids kidB
  rw [List.mem_filter, List.mem_range, decide_eq_true_iff]
theorem Nst.kid (h : Nst d n) {i k : Nat} (hk : k < n) (hp : par d k = (i : Int)) : i < k ∧ d k = d i + 1 ∧ ∀ m, i < m → m < k → d k ≤ d m := by
  rcases h.nearest hk with ⟨g1, g2⟩ | ⟨p, g1, g2, g3, g4⟩
  · omega
  · obtain rfl : p = i := by omega
    exact ⟨g2, by omega, g4⟩
/-- ahead of the first child there is none -/
theorem Nst.kids_first (h : Nst d n) {i : Nat} (hi : i < n) : kids d (i + 1) i = [] := by
  have : kids d (i + 1) i = kids d 0 i := kids_same (by omega) fun k _ hk => decide_eq_false fun e => by
    have := (h.kid (i := i) (k := k) (by omega) e).1; omega
  exact this
/-- the first one behind i, if it is within, is a child -/
theorem Nst.first_kid (h : Nst d n) {i : Nat} (hi : i < n) (hk : i + 1 < en d n i) : par d (i + 1) = (i : Int) := by
  obtain ⟨g1, g2, g3, g4⟩ := en_spec d hi
  exact h.par_eq (by omega) (by omega) (g3 _ (by omega) hk) (fun m h1 h2 => by omega)
/-- behind a child's end the next child stands, if any -/
theorem Nst.next_kid (h : Nst d n) {i k : Nat} (hi : i < n) (hk : k < en d n i) (hp : par d k = (i : Int)) :
    k < en d n k ∧ en d n k ≤ en d n i ∧ kids d (en d n k) i = kids d k i ++ [k] ∧ (en d n k < en d n i → par d (en d n k) = (i : Int)) := by
  obtain ⟨g1, g2, g3, g4⟩ := en_spec d hi
  have hkn : k < n := by omega
  obtain ⟨e1, e2, e3⟩ := h.kid hkn hp
  obtain ⟨f1, f2, f3, f4⟩ := en_spec d hkn
  have hle : en d n k ≤ en d n i := by
    by_cases c : en d n k ≤ en d n i
    · exact c
    · have := f3 (en d n i) hk (by omega); have := g4 (by omega); omega
  refine ⟨f1, hle, ?_, fun hlt => ?_⟩
  · rw [kids_same (m := k + 1) f1 (fun m h1 h2 => decide_eq_false fun e => ?_), kids_succ]
    · rw [show kidB d i k = true from decide_eq_true hp]; rfl
    · obtain ⟨_, q2, q3⟩ := h.kid (by omega) e
      have := f3 m (by omega) h2; omega
  · have := f4 (by omega)
    have := g3 (en d n k) (by omega) hlt
    exact h.par_eq (by omega) (by omega) (by omega) (fun m h1 h2 => by
      by_cases c : m < k
      · have := e3 m h1 c; omega
      · by_cases c2 : m = k
        · subst c2; omega
        · have := f3 m (by omega) h2; omega)
/-- behind i's end there is no child of i -/
theorem Nst.kids_end (h : Nst d n) {i : Nat} (hi : i < n) : kids d n i = kids d (en d n i) i := by
  obtain ⟨g1, g2, g3, g4⟩ := en_spec d hi
  refine kids_same g2 fun k h1 h2 => decide_eq_false fun e => ?_
  obtain ⟨e1, e2, e3⟩ := h.kid h2 e
  by_cases c : k = en d n i
  · subst c; have := g4 h2; omega
  · have := e3 (en d n i) g1 (by omega); have := g4 (by omega); omega

/-- the region that i is, or is within -/
def rootF (d : Nat → Int) : Nat → Nat
  | 0 => 0
  | k + 1 => if d (k + 1) = 0 then k + 1 else rootF d k
theorem rootF_spec (d : Nat → Int) : ∀ k, rootF d k ≤ k ∧ (∀ m, rootF d k < m → m ≤ k → d m ≠ 0) ∧ (rootF d k ≠ 0 → d (rootF d k) = 0)
  | 0 => ⟨Nat.le_refl _, fun m h1 h2 => by omega, fun h => absurd rfl h⟩
  | k + 1 => by
    unfold rootF
    by_cases h : d (k + 1) = 0
    · rw [if_pos h]; exact ⟨Nat.le_refl _, fun m h1 h2 => by omega, fun _ => h⟩
    · rw [if_neg h]
      obtain ⟨h1, h2, h3⟩ := rootF_spec d k
      refine ⟨by omega, fun m hm hk => ?_, h3⟩
      by_cases e : m = k + 1
      · subst e; exact h
      · exact h2 m hm (by omega)
theorem Nst.root_spec (h : Nst d n) {i : Nat} (hi : i < n) : rootF d i ≤ i ∧ d (rootF d i) = 0 ∧ ∀ m, rootF d i < m → m ≤ i → 0 < d m := by
  obtain ⟨h1, h2, h3⟩ := rootF_spec d i
  refine ⟨h1, ?_, fun m hm hk => ?_⟩
  · by_cases e : rootF d i = 0
    · rw [e]; have := h.first (by omega); have := h.lo 0 (by omega); omega
    · exact h3 e
  · have := h2 m hm hk; have := h.lo m (by omega); omega
theorem Nst.root_eq (h : Nst d n) {i r : Nat} (hi : i < n) (h1 : r ≤ i) (h2 : d r = 0) (h3 : ∀ m, r < m → m ≤ i → 0 < d m) : rootF d i = r := by
  obtain ⟨g1, g2, g3⟩ := h.root_spec hi
  rcases Nat.lt_trichotomy (rootF d i) r with e | e | e
  · have := g3 r e h1; omega
  · exact e
  · have := h3 _ e g1; omega
theorem Nst.root_par (h : Nst d n) {i p : Nat} (hi : i < n) (hp : par d i = (p : Int)) : rootF d i = rootF d p := by
  obtain ⟨e1, e2, e3⟩ := h.kid hi hp
  obtain ⟨g1, g2, g3⟩ := h.root_spec (i := p) (by omega)
  have := h.lo p (by omega)
  refine h.root_eq hi (by omega) g2 fun m hm hk => ?_
  by_cases c : m ≤ p
  · exact g3 m hm c
  · by_cases c2 : m = i
    · subst c2; omega
    · have := e3 m (by omega) (by omega); omega
theorem Nst.root_zero (h : Nst d n) {i : Nat} (hi : i < n) (h0 : d i = 0) : rootF d i = i := h.root_eq hi (Nat.le_refl _) h0 (fun m h1 h2 => by omega)

/-- the last place below k of which q says so -/
def lastP (q : Nat → Bool) : Nat → Int
  | 0 => -1
  | k + 1 => if q k = true then k else lastP q k
theorem lastP_spec (q : Nat → Bool) : ∀ k, (lastP q k = -1 ∧ ∀ m, m < k → q m = false) ∨ ∃ p : Nat, lastP q k = p ∧ p < k ∧ q p = true ∧ ∀ m, p < m → m < k → q m = false
  | 0 => Or.inl ⟨rfl, fun m hm => by omega⟩
  | k + 1 => by
    unfold lastP
    by_cases h : q k = true
    · rw [if_pos h]; exact Or.inr ⟨k, rfl, by omega, h, fun m h1 h2 => by omega⟩
    · rw [if_neg h]
      have h := Bool.eq_false_iff.2 h
      rcases lastP_spec q k with ⟨h1, h2⟩ | ⟨p, h1, h2, h3, h4⟩
      · refine Or.inl ⟨h1, fun m hm => ?_⟩
        by_cases e : m = k
        · subst e; exact h
        · exact h2 m (by omega)
      · refine Or.inr ⟨p, h1, by omega, h3, fun m hm hk => ?_⟩
        by_cases e : m = k
        · subst e; exact h
        · exact h4 m hm (by omega)
theorem lastP_congr {q q' : Nat → Bool} {k k' : Nat} (h : ∀ m, (m < k ∧ q m = true) ↔ (m < k' ∧ q' m = true)) : lastP q k = lastP q' k' := by
  rcases lastP_spec q k with ⟨h1, h2⟩ | ⟨p, h1, h2, h3, h4⟩ <;> rcases lastP_spec q' k' with ⟨g1, g2⟩ | ⟨r, g1, g2, g3, g4⟩
  · rw [h1, g1]
  · obtain ⟨a, b⟩ := (h r).2 ⟨g2, g3⟩
    rw [h2 r a] at b; cases b
  · obtain ⟨a, b⟩ := (h p).1 ⟨h2, h3⟩
    rw [g2 p a] at b; cases b
  · rw [h1, g1]
    have : p = r := by
      rcases Nat.lt_trichotomy p r with e | e | e
      · obtain ⟨a, b⟩ := (h r).2 ⟨g2, g3⟩
        rw [h4 r e a] at b; cases b
      · exact e
      · obtain ⟨a, b⟩ := (h p).1 ⟨h2, h3⟩
        rw [g4 p e a] at b; cases b
    rw [this]
/-- holds to, and may have one child active -/
noncomputable def one (d kd : Nat → Int) (t m : Nat) : Bool := decide (kd m = 2 ∧ wi d m t)
/-- is k, or is k within it -/
noncomputable def up (d : Nat → Int) (k m : Nat) : Bool := decide (m = k ∨ wi d m k)
noncomputable def dom (d kd : Nat → Int) (k t : Nat) : Int := lastP (fun m => up d k m && one d kd t m) (k + 1)
theorem dom_here {kd : Nat → Int} {k t : Nat} (h : one d kd t k = true) : dom d kd k t = k := by
  unfold dom lastP
  rw [if_pos (by simp [h, up])]
theorem Nst.dom_par (h : Nst d n) {kd : Nat → Int} {k t p : Nat} (hk : k < n) (ho : one d kd t k = false) (hp : par d k = (p : Int)) : dom d kd k t = dom d kd p t := by
  obtain ⟨e1, e2, e3⟩ := h.kid hk hp
  refine lastP_congr fun m => ?_
  simp only [Bool.and_eq_true, up, decide_eq_true_iff]
  constructor
  · rintro ⟨h1, h2, h3⟩
    rcases h2 with rfl | h2
    · rw [ho] at h3; cases h3
    · obtain ⟨q, hq, hr⟩ := (h.wi_par hk).1 h2
      obtain rfl : p = q := by omega
      rcases hr with rfl | hr
      · exact ⟨by omega, Or.inl rfl, h3⟩
      · exact ⟨by have := hr.1; omega, Or.inr hr, h3⟩
  · rintro ⟨h1, h2, h3⟩
    have hw : wi d m k := (h.wi_par hk).2 ⟨p, hp, h2.imp Eq.symm id⟩
    exact ⟨by have := hw.1; omega, Or.inr hw, h3⟩
theorem Nst.dom_none (h : Nst d n) {kd : Nat → Int} {k t : Nat} (hk : k < n) (ho : one d kd t k = false) (hp : par d k = -1) : dom d kd k t = -1 := by
  unfold dom
  rcases lastP_spec (fun m => up d k m && one d kd t m) (k + 1) with ⟨h1, _⟩ | ⟨m, _, h2, h3, _⟩
  · exact h1
  · simp only [Bool.and_eq_true, up, decide_eq_true_iff] at h3
    rcases h3.1 with e | hw
    · subst e
      rw [ho] at h3
      exact absurd h3.2 (by simp)
    · obtain ⟨q, hq, _⟩ := (h.wi_par hk).1 hw
      omega
theorem dom_spec {kd : Nat → Int} (k t : Nat) : (dom d kd k t = -1 ∧ ∀ m, m ≤ k → up d k m = true → one d kd t m = false) ∨ ∃ p : Nat, dom d kd k t = p ∧ p ≤ k ∧ up d k p = true ∧ one d kd t p = true ∧ ∀ m, p < m → m ≤ k → up d k m = true → one d kd t m = false := by
  unfold dom
  rcases lastP_spec (fun m => up d k m && one d kd t m) (k + 1) with ⟨h1, h2⟩ | ⟨p, h1, h2, h3, h4⟩
  · exact Or.inl ⟨h1, fun m hm hu => by have := h2 m (by omega); rw [hu] at this; simpa using this⟩
  · simp only [Bool.and_eq_true] at h3
    exact Or.inr ⟨p, h1, by omega, h3.1, h3.2, fun m h5 h6 hu => by have := h4 m h5 (by omega); rw [hu] at this; simpa using this⟩
end

/-- may a child of kind c stand in a state of kind k? -/
def mayP (k c : Int) : Prop := k = 2 ∨ (k = 3 ∧ c ≤ 3)
def parentP (k : Int) : Prop := k = 2 ∨ k = 3
def pastP (k : Int) : Prop := k = 5 ∨ k = 6
instance {k c : Int} : Decidable (mayP k c) := by unfold mayP; infer_instance
instance {k : Int} : Decidable (parentP k) := by unfold parentP; infer_instance
instance {k : Int} : Decidable (pastP k) := by unfold pastP; infer_instance
/-- how many regions stand below k -/
def regs (d : Nat → Int) : Nat → Nat
  | 0 => 0
  | k + 1 => regs d k + if d k = 0 then 1 else 0
theorem regs_le (d : Nat → Int) : ∀ k, regs d k ≤ k
  | 0 => Nat.le_refl _
  | k + 1 => by
    have := regs_le d k
    unfold regs; split <;> omega
theorem regs_mono (d : Nat → Int) : ∀ (g k : Nat), regs d k ≤ regs d (k + g)
  | 0, k => Nat.le_refl _
  | g + 1, k => by
    have := regs_mono d g k
    show _ ≤ regs d (k + g) + _
    omega
/-- what must hold of each place -/
structure Fine (d kd : Nat → Int) (i : Nat) : Prop where
  kind : 1 ≤ kd i ∧ kd i ≤ 6
  region : d i = 0 → kd i = 2
/-- such children as it must have, and no others -/
def Fil (d kd : Nat → Int) (n i : Nat) : Prop := (∀ k ∈ kids d n i, mayP (kd i) (kd k)) ∧ ((∃ k ∈ kids d n i, ¬ pastP (kd k)) ↔ parentP (kd i))
noncomputable instance {d kd : Nat → Int} {n i : Nat} : Decidable (Fil d kd n i) := Classical.propDecidable _
structure RightP (d kd : Nat → Int) (n : Nat) : Prop where
  pos : 1 ≤ n
  le : n ≤ 40
  nst : Nst d n
  fine : ∀ i, i < n → Fine d kd i
  fil : ∀ i, i < n → Fil d kd n i
  regs : regs d n ≤ 4
noncomputable instance {d kd : Nat → Int} {n : Nat} : Decidable (RightP d kd n) := Classical.propDecidable _
noncomputable instance {d : Nat → Int} {n : Nat} : Decidable (Nst d n) := Classical.propDecidable _
/-- the same, as the document has it -/
theorem fil_iff {d kd : Nat → Int} {n : Nat} :
    (∀ i, i < n → Fil d kd n i) ↔ (∀ k, k < n → ∀ p : Nat, p < n → par d k = (p : Int) → mayP (kd p) (kd k)) ∧ ∀ i, i < n → parentP (kd i) → ∃ k ∈ kids d n i, ¬ pastP (kd k) := by
  constructor
  · intro h
    refine ⟨fun k hk p hp e => (h p hp).1 k (mem_kids.2 ⟨hk, e⟩), fun i hi hp => (h i hi).2.2 hp⟩
  · rintro ⟨h1, h2⟩ i hi
    refine ⟨fun k hk => h1 k (mem_kids.1 hk).1 i hi (mem_kids.1 hk).2, fun ⟨k, hk, _⟩ => ?_, h2 i hi⟩
    have := h1 k (mem_kids.1 hk).1 i hi (mem_kids.1 hk).2
    rcases this with e | ⟨e, _⟩
    · exact Or.inl e
    · exact Or.inr e
end Go.Proofs.Ytpmgleioldlolaa
