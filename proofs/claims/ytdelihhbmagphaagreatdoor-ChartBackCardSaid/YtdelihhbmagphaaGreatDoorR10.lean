/- Own texts, joined: F2, F3, F4. -/
import Derived.Test.YtdelihhbmagphaaGreatDoorR5
import Derived.Test.YtdelihhbmagphaaGreatDoorR8
namespace Go.Proofs.YtdelihhbmagphaaGreatDoor
inductive T where
 | leaf (c : CM)
 | un (o : Int) (t : T)
 | bin (o : Int) (l r : T)
def post : T → List CM
 | .leaf c => [c]
 | .un o t => post t ++ [opC o]
 | .bin o l r => post l ++ post r ++ [opC o]
def OkT : T → Prop
 | .leaf c => formedB c = true ∧ operN c.op = 0
 | .un o t => 7 ≤ o ∧ o ≤ 10 ∧ OkT t
 | .bin o l r => 11 ≤ o ∧ o ≤ 23 ∧ OkT l ∧ OkT r
def pcT : T → Pc
 | .leaf c => joinP c none0 none0
 | .un o t => joinP (opC o) (pcT t) none0
 | .bin o l r => joinP (opC o) (pcT l) (pcT r)
theorem operN_un {o : Int} (h : 7 ≤ o ∧ o ≤ 10) : operN o = 1 := by unfold operN; rw [if_neg (by omega), if_pos h]
theorem operN_bin {o : Int} (h : 11 ≤ o ∧ o ≤ 23) : operN o = 2 := by unfold operN; rw [if_neg (by omega), if_neg (by omega)]
theorem formed_opC {o : Int} (h : 7 ≤ o ∧ o ≤ 23) : formedB (opC o) = true := by
 unfold formedB opC
 simp only
 rw [if_neg (by omega), if_neg (by omega), if_neg (by omega), decide_eq_true (show 1 ≤ o by omega), decide_eq_true (show o ≤ 23 by omega)]; rfl
theorem opC_of {c : CM} (h : formedB c = true) (ho : 1 ≤ operN c.op) : c = opC c.op ∧ 7 ≤ c.op := by
 have h7 : 7 ≤ c.op := by
  have := formed_op h
  unfold operN at ho
  split at ho
  ·omega
  ·omega
 refine ⟨?_, h7⟩
 unfold formedB at h
 rw [if_neg (by omega), if_neg (by omega), if_neg (by omega)] at h
 simp at h
 cases c; simp at h; simp [opC, h]
theorem fold_post {t : T} (h : OkT t) (st : List Pc) : (post t).foldl stepP st = st ++ [pcT t] := by
 induction t generalizing st with
 | leaf c =>
  show stepP st c = _
  unfold stepP
  rw [h.2, Nat.sub_zero, List.take_length, List.drop_length]
  rfl
 | un o t ih =>
  show (post t ++ [opC o]).foldl stepP st = _
  rw [List.foldl_append, ih h.2.2]
  show stepP (st ++ [pcT t]) (opC o) = _
  unfold stepP
  rw [show operN (opC o).op = 1 from operN_un ⟨h.1, h.2.1⟩]
  simp [pcT]
 | bin o l r ihl ihr =>
  show (post l ++ post r ++ [opC o]).foldl stepP st = _
  rw [List.foldl_append, List.foldl_append, ihl h.2.2.1, ihr h.2.2.2]
  show stepP (st ++ [pcT l] ++ [pcT r]) (opC o) = _
  unfold stepP
  rw [show operN (opC o).op = 2 from operN_bin ⟨h.1, h.2.1⟩]
  simp [pcT]
theorem run_post {t : T} (h : OkT t) (r : List CM) (v : Nat) : runB (post t ++ r) v = runB r (v + 1) := by
 induction t generalizing r v with
 | leaf c =>
  show (if formedB c = true ∧ operN c.op ≤ v then runB r (v + 1 - operN c.op) else none) = _
  rw [h.2, if_pos ⟨h.1, Nat.zero_le _⟩]; rfl
 | un o t ih =>
  show runB (post t ++ [opC o] ++ r) v = _
  rw [List.append_assoc, ih h.2.2]
  show (if formedB (opC o) = true ∧ operN o ≤ v + 1 then runB r (v + 1 + 1 - operN o) else none) = _
  rw [operN_un ⟨h.1, h.2.1⟩, if_pos ⟨formed_opC ⟨h.1, by have := h.2.1; omega⟩, by omega⟩]; rfl
 | bin o l r' ihl ihr =>
  show runB (post l ++ post r' ++ [opC o] ++ r) v = _
  rw [List.append_assoc, List.append_assoc, ihl h.2.2.1, ihr h.2.2.2]
  show (if formedB (opC o) = true ∧ operN o ≤ v + 1 + 1 then runB r (v + 1 + 1 + 1 - operN o) else none) = _
  rw [operN_bin ⟨h.1, h.2.1⟩, if_pos ⟨formed_opC ⟨by have := h.1; omega, h.2.1⟩, by omega⟩]; rfl
def OkAll (ts : List T) : Prop := ∀ t ∈ ts, OkT t
theorem trees_of : ∀ (cs : List CM) (ts : List T) (n : Nat), OkAll ts → runB cs ts.length = some n → ∃ ts', OkAll ts' ∧ ts'.flatMap post = ts.flatMap post ++ cs ∧ ts'.length = n := by
 intro cs
 induction cs with
 | nil => intro ts n ho hr; exact ⟨ts, ho, by simp, by simpa [runB] using hr⟩
 | cons c r ih =>
  intro ts n ho hr
  unfold runB at hr
  split at hr
  ·rename_i hc
   obtain ⟨hf, hle⟩ := hc
   have h2 := operN_le c.op
   have hcs : operN c.op = 0 ∨ operN c.op = 1 ∨ operN c.op = 2 := by omega
   rcases hcs with h0 | h0 | h0
   ·rw [h0] at hr
    obtain ⟨ts', h1, h2, h3⟩ := ih (ts ++ [.leaf c]) n (by
     intro t ht
     rcases List.mem_append.1 ht with h | h
     ·exact ho t h
     ·simp at h; subst h; exact ⟨hf, h0⟩) (by simpa using hr)
    exact ⟨ts', h1, by rw [h2]; simp [post], h3⟩
   ·obtain ⟨hc1, hc7⟩ := opC_of hf (by omega)
    rcases List.eq_nil_or_concat ts with rfl | ⟨ts0, a, rfl⟩
    ·simp at hle; omega
    ·rw [List.concat_eq_append] at *
     have h10 : c.op ≤ 10 := by
      unfold operN at h0
      split at h0
      ·omega
      ·split at h0 <;> omega
     obtain ⟨ts', h1, h2, h3⟩ := ih (ts0 ++ [.un c.op a]) n (by
      intro t ht
      rcases List.mem_append.1 ht with h | h
      ·exact ho t (List.mem_append_left _ h)
      ·simp at h; subst h; exact ⟨hc7, h10, ho a (by simp)⟩) (by rw [h0] at hr; simpa using hr)
     refine ⟨ts', h1, ?_, h3⟩
     rw [h2]
     simp only [List.flatMap_append, List.flatMap_cons, List.flatMap_nil, List.append_nil, List.append_assoc, post]
     rw [← hc1]; rfl
   ·obtain ⟨hc1, hc7⟩ := opC_of hf (by omega)
    rcases List.eq_nil_or_concat ts with rfl | ⟨ts1, b, rfl⟩
    ·simp at hle; omega
    ·rw [List.concat_eq_append] at *
     rcases List.eq_nil_or_concat ts1 with rfl | ⟨ts0, a, rfl⟩
     ·simp at hle; omega
     ·rw [List.concat_eq_append] at *
      have h10 : 11 ≤ c.op := by
       unfold operN at h0
       split at h0
       ·omega
       ·split at h0 <;> omega
      obtain ⟨ts', h1, h2, h3⟩ := ih (ts0 ++ [.bin c.op a b]) n (by
       intro t ht
       rcases List.mem_append.1 ht with h | h
       ·exact ho t (List.mem_append_left _ (List.mem_append_left _ h))
       ·simp at h; subst h; exact ⟨h10, (formed_op hf).2, ho a (by simp), ho b (by simp)⟩) (by rw [h0] at hr; simpa using hr)
      refine ⟨ts', h1, ?_, h3⟩
      rw [h2]
      simp only [List.flatMap_append, List.flatMap_cons, List.flatMap_nil, List.append_nil, List.append_assoc, post]
      rw [← hc1]; rfl
  ·cases hr
theorem right_tree {cs : List CM} (h : rightB cs = true) : ∃ t, OkT t ∧ post t = cs := by
 unfold rightB at h
 simp at h
 obtain ⟨ts, h1, h2, h3⟩ := trees_of cs [] 1 (by intro t ht; cases ht) h.2
 match ts, h3 with
 | [t], _ => exact ⟨t, h1 t (by simp), by simpa using h2⟩
theorem tree_right {t : T} (h : OkT t) (hl : (post t).length ≤ 32) : rightB (post t) = true := by
 unfold rightB
 have := run_post h [] 0
 rw [List.append_nil] at this
 rw [this, decide_eq_true hl]; rfl
theorem tree_show {t : T} (h : OkT t) (hl : (post t).length ≤ 32) : showP (post t) = ((pcT t).1, 0) := by
 unfold showP
 rw [if_pos (tree_right h hl)]
 unfold stackP
 rw [fold_post h]; rfl
end Go.Proofs.YtdelihhbmagphaaGreatDoor
namespace Go.Proofs.YtdelihhbmagphaaGreatDoor
theorem wordD_same {s : List UInt8} {p : Nat} {cs : List CM} {a b : Rs} (h : p + 3 ≤ s.length → a = b) : wordD s p cs (wordP s p) a = wordD s p cs (wordP s p) b := by
 unfold wordD
 split
 ·rfl
 ·split
  ·rfl
  ·split
   ·rfl
   ·split
    ·rfl
    ·rename_i h40
     have h3 := nx_lt (s := s) (p := p + (wordP s p).length) (by rw [Decidable.not_not.1 h40]; decide)
     split
     ·rfl
     ·split
      ·rename_i e; rw [e] at h3; simp [wRe] at h3; rw [h (by omega)]
      ·split
       ·rename_i e; rw [e] at h3; simp [wIm] at h3; rw [h (by omega)]
       ·rfl
def goodQ : Q → Prop
 | .joins k => 1 ≤ k ∧ k ≤ 6
 | .loop k _ => 1 ≤ k ∧ k ≤ 5
 | .ahead => True
theorem more (s : List UInt8) : ∀ (n : Nat) (q : Q) (p : Nat) (cs : List CM), goodQ q → p ≤ s.length → need s q p ≤ n → D s (n + 1) q p cs = D s n q p cs := by
 intro n
 induction n with
 | zero => intro q p cs hg hp hn; cases q <;> simp only [need, goodQ] at hn hg <;> omega
 | succ n ih =>
  intro q p cs hg hp hn
  cases q with
  | joins k =>
   rw [D_joins s (n + 1) k p cs, D_joins s n k p cs]
   by_cases h6 : k = 6
   ·subst h6
    rw [if_pos rfl, if_pos rfl]
    exact ih .ahead p cs trivial hp (by simp only [need] at *; omega)
   ·rw [if_neg h6, if_neg h6]
    have hk : k ≤ 6 := hg.2
    have h1 := ih (.joins (k + 1)) p cs ⟨by omega, by omega⟩ hp (by simp only [need] at *; omega)
    rw [h1]
    by_cases hb : (D s n (.joins (k + 1)) p cs).1 = true
    ·rw [if_pos hb, if_pos hb]
     have hgo := goes s n (.joins (k + 1)) p cs hp
     have hgt : p < (D s n (.joins (k + 1)) p cs).2.1 := hgo.gt hb
     have hle := hgo.le
     exact ih (.loop k false) _ _ ⟨hg.1, by omega⟩ hle (by simp only [need] at *; omega)
    ·rw [if_neg hb, if_neg hb]
  | loop k cmp =>
   rw [D_loop s (n + 1) k cmp p cs, D_loop s n k cmp p cs]
   have hk1 : 1 ≤ k := hg.1
   have hk5 : k ≤ 5 := hg.2
   by_cases hs : (opAt s p).2.2 ≠ k
   ·rw [if_pos hs, if_pos hs]
   ·rw [if_neg hs, if_neg hs]
    by_cases hc : cmp = true
    ·rw [if_pos hc, if_pos hc]
    ·rw [if_neg hc, if_neg hc]
     have hs := Decidable.not_not.1 hs
     have ho := opAt_some (s := s) (p := p) (by omega)
     have h1 := ih (.joins (k + 1)) (p + (opAt s p).2.1) cs ⟨by omega, by omega⟩ ho.2 (by simp only [need] at *; omega)
     rw [h1]
     by_cases hb : (D s n (.joins (k + 1)) (p + (opAt s p).2.1) cs).1 = true
     ·rw [if_pos hb, if_pos hb]
      have hgo := goes s n (.joins (k + 1)) (p + (opAt s p).2.1) cs ho.2
      have hgt : p + (opAt s p).2.1 < (D s n (.joins (k + 1)) (p + (opAt s p).2.1) cs).2.1 := hgo.gt hb
      have hle := hgo.le
      exact ih (.loop k (k == 3)) _ _ ⟨hk1, hk5⟩ hle (by simp only [need] at *; omega)
     ·rw [if_neg hb, if_neg hb]
  | ahead =>
   rw [D_ahead s (n + 1) p cs, D_ahead s n p cs]
   by_cases h45 : nx s p = 45
   ·rw [if_pos h45, if_pos h45]
    have := nx_lt (s := s) (p := p) (by rw [h45]; decide)
    rw [ih .ahead (p + 1) cs trivial (by omega) (by simp only [need] at *; omega)]
   ·rw [if_neg h45, if_neg h45]
    by_cases h33 : nx s p = 33
    ·rw [if_pos h33, if_pos h33]
     have := nx_lt (s := s) (p := p) (by rw [h33]; decide)
     rw [ih .ahead (p + 1) cs trivial (by omega) (by simp only [need] at *; omega)]
    ·rw [if_neg h33, if_neg h33]
     by_cases h40 : nx s p = 40
     ·rw [if_pos h40, if_pos h40]
      have := nx_lt (s := s) (p := p) (by rw [h40]; decide)
      rw [ih (.joins 1) (p + 1) cs ⟨by omega, by omega⟩ (by omega) (by simp only [need] at *; omega)]
     ·rw [if_neg h40, if_neg h40]
      by_cases hd : isD (nx s p) = true
      ·rw [if_pos hd, if_pos hd]
      ·rw [if_neg hd, if_neg hd]
       exact wordD_same (fun h3 => ih (.joins 1) (p + 3) cs ⟨by omega, by omega⟩ h3 (by simp only [need] at *; omega))
theorem more_to (s : List UInt8) (q : Q) (p : Nat) (cs : List CM) (hg : goodQ q) (hp : p ≤ s.length) (n : Nat) (h : need s q p ≤ n) : D s n q p cs = D s (need s q p) q p cs := by
 obtain ⟨d, rfl⟩ : ∃ d, n = need s q p + d := ⟨n - need s q p, by omega⟩
 clear h
 induction d with
 | zero => rfl
 | succ d ih => rw [← ih, ← Nat.add_assoc]; exact more s _ q p cs hg hp (by omega)
def E (s : List UInt8) (q : Q) (p : Nat) (cs : List CM) : Rs := D s (need s q p) q p cs
section
variable {s : List UInt8} {p : Nat} {cs : List CM}
theorem D_E {n : Nat} {q : Q} (hg : goodQ q) (hp : p ≤ s.length) (h : need s q p ≤ n) : D s n q p cs = E s q p cs := more_to s q p cs hg hp n h
theorem E_six (hp : p ≤ s.length) : E s (.joins 6) p cs = E s .ahead p cs := by
 rw [← D_E (q := .joins 6) (n := need s (.joins 6) p + 1) ⟨by omega, by omega⟩ hp (by omega), D_joins, if_pos rfl]
 exact D_E (q := .ahead) trivial hp (by simp only [need]; omega)
theorem E_joins {k : Nat} (hk : 1 ≤ k) (hk5 : k ≤ 5) (hp : p ≤ s.length) : E s (.joins k) p cs =
  if (E s (.joins (k + 1)) p cs).1 = true then E s (.loop k false) (E s (.joins (k + 1)) p cs).2.1 (E s (.joins (k + 1)) p cs).2.2 else E s (.joins (k + 1)) p cs := by
 rw [← D_E (q := .joins k) (n := need s (.joins k) p + 1) ⟨by omega, by omega⟩ hp (by omega), D_joins, if_neg (by omega)]
 have h1 := D_E (s := s) (p := p) (cs := cs) (n := need s (.joins k) p) (q := .joins (k + 1)) ⟨by omega, by omega⟩ hp (by simp only [need]; omega)
 rw [h1]
 by_cases hb : (E s (.joins (k + 1)) p cs).1 = true
 ·rw [if_pos hb, if_pos hb]
  have hgo := goes s (need s (.joins (k + 1)) p) (.joins (k + 1)) p cs hp
  have hgt : p < (E s (.joins (k + 1)) p cs).2.1 := hgo.gt hb
  have hle : (E s (.joins (k + 1)) p cs).2.1 ≤ s.length := hgo.le
  exact D_E (q := .loop k false) ⟨hk, hk5⟩ hle (by simp only [need] at *; omega)
 ·rw [if_neg hb, if_neg hb]
theorem E_loop {k : Nat} {cmp : Bool} (hk : 1 ≤ k) (hk5 : k ≤ 5) (hp : p ≤ s.length) : E s (.loop k cmp) p cs =
  if (opAt s p).2.2 ≠ k then (true, p, cs)
  else if cmp = true then (false, p, cs)
  else if (E s (.joins (k + 1)) (p + (opAt s p).2.1) cs).1 = true then
   E s (.loop k (k == 3)) (E s (.joins (k + 1)) (p + (opAt s p).2.1) cs).2.1 ((E s (.joins (k + 1)) (p + (opAt s p).2.1) cs).2.2 ++ [opC (opAt s p).1])
  else E s (.joins (k + 1)) (p + (opAt s p).2.1) cs := by
 rw [← D_E (q := .loop k cmp) (n := need s (.loop k cmp) p + 1) ⟨hk, hk5⟩ hp (by omega), D_loop]
 by_cases hs : (opAt s p).2.2 ≠ k
 ·rw [if_pos hs, if_pos hs]
 ·rw [if_neg hs, if_neg hs]
  by_cases hc : cmp = true
  ·rw [if_pos hc, if_pos hc]
  ·rw [if_neg hc, if_neg hc]
   have hs := Decidable.not_not.1 hs
   have ho := opAt_some (s := s) (p := p) (by omega)
   have h1 := D_E (s := s) (p := p + (opAt s p).2.1) (cs := cs) (n := need s (.loop k cmp) p) (q := .joins (k + 1)) ⟨by omega, by omega⟩ ho.2 (by simp only [need]; omega)
   rw [h1]
   by_cases hb : (E s (.joins (k + 1)) (p + (opAt s p).2.1) cs).1 = true
   ·rw [if_pos hb, if_pos hb]
    have hgo := goes s (need s (.joins (k + 1)) (p + (opAt s p).2.1)) (.joins (k + 1)) (p + (opAt s p).2.1) cs ho.2
    have hgt : p + (opAt s p).2.1 < (E s (.joins (k + 1)) (p + (opAt s p).2.1) cs).2.1 := hgo.gt hb
    have hle : (E s (.joins (k + 1)) (p + (opAt s p).2.1) cs).2.1 ≤ s.length := hgo.le
    exact D_E (q := .loop k (k == 3)) ⟨hk, hk5⟩ hle (by simp only [need] at *; omega)
   ·rw [if_neg hb, if_neg hb]
theorem E_ahead (hp : p ≤ s.length) : E s .ahead p cs =
  if nx s p = 45 then addD 7 (E s .ahead (p + 1) cs)
  else if nx s p = 33 then addD 8 (E s .ahead (p + 1) cs)
  else if nx s p = 40 then closeD s (E s (.joins 1) (p + 1) cs)
  else if isD (nx s p) = true then numD s p cs
  else wordD s p cs (wordP s p) (E s (.joins 1) (p + 3) cs) := by
 rw [← D_E (q := .ahead) (n := need s .ahead p + 1) trivial hp (by omega), D_ahead]
 by_cases h45 : nx s p = 45
 ·rw [if_pos h45, if_pos h45]
  have := nx_lt (s := s) (p := p) (by rw [h45]; decide)
  rw [D_E (q := .ahead) trivial (by omega) (by simp only [need]; omega)]
 ·rw [if_neg h45, if_neg h45]
  by_cases h33 : nx s p = 33
  ·rw [if_pos h33, if_pos h33]
   have := nx_lt (s := s) (p := p) (by rw [h33]; decide)
   rw [D_E (q := .ahead) trivial (by omega) (by simp only [need]; omega)]
  ·rw [if_neg h33, if_neg h33]
   by_cases h40 : nx s p = 40
   ·rw [if_pos h40, if_pos h40]
    have := nx_lt (s := s) (p := p) (by rw [h40]; decide)
    rw [D_E (q := .joins 1) ⟨by omega, by omega⟩ (by omega) (by simp only [need]; omega)]
   ·rw [if_neg h40, if_neg h40]
    by_cases hd : isD (nx s p) = true
    ·rw [if_pos hd, if_pos hd]
    ·rw [if_neg hd, if_neg hd]
     exact wordD_same (fun h3 => D_E (q := .joins 1) ⟨by omega, by omega⟩ h3 (by simp only [need]; omega))
theorem parse_E (s : List UInt8) : parseP s = if 600 < s.length then ([], 0, 4)
  else if (E s (.joins 1) 0 []).1 = false ∨ (E s (.joins 1) 0 []).2.1 < s.length then ([], (E s (.joins 1) 0 []).2.1, 1)
  else if 32 < (E s (.joins 1) 0 []).2.2.length then ([], 0, 4) else ((E s (.joins 1) 0 []).2.2, 0, 0) := by
 unfold parseP
 rw [D_E (q := .joins 1) ⟨by omega, by omega⟩ (Nat.zero_le _) (by simp only [need]; omega)]
end
end Go.Proofs.YtdelihhbmagphaaGreatDoor
namespace Go.Proofs.YtdelihhbmagphaaGreatDoor
def At (s : List UInt8) (p : Nat) (x : List UInt8) : Prop := p + x.length ≤ s.length ∧ ∃ r, s.drop p = x ++ r
section
variable {s x y : List UInt8} {p : Nat} {c : UInt8}
theorem At.le (h : At s p x) : p + x.length ≤ s.length := h.1
theorem At.head (h : At s p (c :: x)) : nx s p = c ∧ At s (p + 1) x := by
 obtain ⟨h1, r, h2⟩ := h
 simp only [List.length_cons] at h1
 have hp : p < s.length := by omega
 rw [List.drop_eq_getElem_cons hp] at h2
 injection h2 with h3 h4
 refine ⟨by rw [nx_at hp, h3], by omega, r, h4⟩
theorem At.split (h : At s p (x ++ y)) : At s p x ∧ At s (p + x.length) y := by
 obtain ⟨h1, r, h2⟩ := h
 rw [List.length_append] at h1
 refine ⟨⟨by omega, y ++ r, by rw [h2, List.append_assoc]⟩, ⟨by omega, r, ?_⟩⟩
 rw [← List.drop_drop, h2, List.append_assoc, List.drop_left']
 rfl
theorem At.all (s : List UInt8) : At s 0 s := ⟨by omega, [], by simp⟩
def Fol (s : List UInt8) (q : Nat) : Prop := okB (nx s q) = false
theorem fol_end : Fol s s.length := by unfold Fol; rw [nx_end (Nat.le_refl _)]; decide
theorem takeWhile_at {f : UInt8 → Bool} (h : At s p x) (hx : x.all f = true) (hf : f (nx s (p + x.length)) = false) : (s.drop p).takeWhile f = x := by
 obtain ⟨h1, r, h2⟩ := h
 rw [h2]
 have hr : r.takeWhile f = [] := by
  cases r with
  | nil => rfl
  | cons c r' =>
   have e : s.drop (p + x.length) = c :: r' := by rw [← List.drop_drop, h2, List.drop_left']; rfl
   have hp : p + x.length < s.length := by
    rcases Nat.lt_or_ge (p + x.length) s.length with h | h
    ·exact h
    ·rw [List.drop_of_length_le h] at e; cases e
   rw [List.drop_eq_getElem_cons hp] at e
   injection e with e1 e2
   rw [nx_at hp, e1] at hf
   simp [hf]
 have : ∀ (x : List UInt8), x.all f = true → (x ++ r).takeWhile f = x := by
  intro x
  induction x with
  | nil => intro _; exact hr
  | cons c x ih =>
   intro hx
   rw [List.all_cons, Bool.and_eq_true] at hx
   rw [List.cons_append, List.takeWhile_cons_of_pos hx.1, ih hx.2]
 exact this x hx
theorem word_at (h : At s p x) (hx : x.all okB = true) (hf : Fol s (p + x.length)) : wordP s p = x := takeWhile_at h hx hf
theorem okB_digit (h : isD c = true) : okB c = true := by simp [okB, h]
end
theorem op_at {s x : List UInt8} {p : Nat} {c : UInt8} {k : Nat} (hk : k < 13) (h : At s p ((tabAt k).2.1 ++ c :: x)) (hc : c ≠ 61) :
  opAt s p = ((tabAt k).1, (tabAt k).2.1.length, (tabAt k).2.2.toNat) ∧ Fol s p := by
 have hh : k = 0 ∨ k = 1 ∨ k = 2 ∨ k = 3 ∨ k = 4 ∨ k = 5 ∨ k = 6 ∨ k = 7 ∨ k = 8 ∨ k = 9 ∨ k = 10 ∨ k = 11 ∨ k = 12 := by omega
 rcases hh with rfl | rfl | rfl | rfl | rfl | rfl | rfl | rfl | rfl | rfl | rfl | rfl | rfl
 all_goals
  have h1 := h.head
  have h2 := h1.2.head
  unfold opAt Fol
  rw [h1.1, h2.1]
  first
   | exact ⟨rfl, by decide⟩
   | exact ⟨by simp [opOf, hc]; exact ⟨rfl, rfl, rfl⟩, by decide⟩
theorem tab_first (k : Nat) (hk : k < 13) : (tabAt k).1 = (k : Int) + 11 ∧ 1 ≤ (tabAt k).2.2 ∧ (tabAt k).2.2 ≤ 5 := by
 have hh : k = 0 ∨ k = 1 ∨ k = 2 ∨ k = 3 ∨ k = 4 ∨ k = 5 ∨ k = 6 ∨ k = 7 ∨ k = 8 ∨ k = 9 ∨ k = 10 ∨ k = 11 ∨ k = 12 := by omega
 rcases hh with rfl | rfl | rfl | rfl | rfl | rfl | rfl | rfl | rfl | rfl | rfl | rfl | rfl <;> decide
def NoEq (x : List UInt8) : Prop := ∃ c r, x = c :: r ∧ c ≠ 61
theorem noeq_in {x : List UInt8} {a b : Int} (h : NoEq x) : NoEq (inP x a b) := by
 unfold inP
 split
 ·exact ⟨40, x ++ [41], rfl, by decide⟩
 ·exact h
theorem noeq_append {x y : List UInt8} (h : NoEq x) : NoEq (x ++ y) := by
 obtain ⟨c, r, rfl, hc⟩ := h
 exact ⟨c, r ++ y, rfl, hc⟩
theorem dec_first (u : Nat) : ∃ c r, Lib.decDigits u = c :: r ∧ isD c = true := by
 induction u using Nat.strongRecOn with
 | _ u ih =>
  by_cases h : u < 10
  ·rw [dec_small h]
   exact ⟨_, _, rfl, by rw [isD_iff, digit_ofNat h]; omega⟩
  ·rw [dec_big h]
   obtain ⟨c, r, e, hc⟩ := ih (u / 10) (by omega)
   exact ⟨c, _, by rw [e]; rfl, hc⟩
theorem itoa_nat {a : Int} (h : 0 ≤ a) : Lib.itoa a = Lib.decDigits a.toNat := by
 unfold Lib.itoa
 rw [if_neg (by omega)]
theorem digit_noeq {c : UInt8} (h : isD c = true) : c ≠ 61 := by rintro rfl; exact absurd h (by decide)
theorem name_head {l : List UInt8} (h : nameB l = true) : ∃ c r, l = c :: r ∧ isLB c = true ∧ r.all okB = true ∧ takenB l = false := by
 cases l with
 | nil => cases h
 | cons c r =>
  simp [nameB] at h
  exact ⟨c, r, rfl, h.1.1.2, by simpa using h.1.2, h.2⟩
theorem noeq_leaf {c : CM} (h : formedB c = true) (ho : operN c.op = 0) : NoEq (joinP c none0 none0).1 := by
 have h16 : 1 ≤ c.op ∧ c.op ≤ 6 := by
  have := formed_op h
  unfold operN at ho
  split at ho
  ·assumption
  ·split at ho <;> omega
 unfold joinP
 split
 ·rename_i e
  have := formed_num h (Or.inl e)
  rw [itoa_nat this.1]
  obtain ⟨d, r, e2, hd⟩ := dec_first c.a.toNat
  exact ⟨d, r, e2, digit_noeq hd⟩
 ·split
  ·rename_i e
   have := formed_num h (Or.inr e)
   rw [itoa_nat this.1]
   obtain ⟨d, r, e2, hd⟩ := dec_first c.a.toNat
   exact noeq_append ⟨d, r, e2, digit_noeq hd⟩
  ·split
   ·exact ⟨116, _, rfl, by decide⟩
   ·split
    ·exact ⟨102, _, rfl, by decide⟩
    ·split
     ·rename_i e
      unfold formedB at h
      rw [if_neg (by omega), if_neg (by omega), if_pos (Or.inl e)] at h
      simp at h
      obtain ⟨d, r, e2, hd, _⟩ := name_head h.2
      exact ⟨d, r, e2, by rintro rfl; exact absurd hd (by decide)⟩
     ·split
      ·exact ⟨105, _, rfl, by decide⟩
      ·exfalso; omega
theorem joinP_bin {o : Int} (h : 11 ≤ o) (a b : Pc) : joinP (opC o) a b = betP (tabAt (o - 11).toNat).2.1 (tabAt (o - 11).toNat).2.2 a b := by
 unfold joinP opC
 simp only
 rw [if_neg (by omega), if_neg (by omega), if_neg (by omega), if_neg (by omega), if_neg (by omega), if_neg (by omega), if_neg (by omega), if_neg (by omega), if_neg (by omega), if_neg (by omega)]
theorem noeq {t : T} (h : OkT t) : NoEq (pcT t).1 := by
 induction t with
 | leaf c => exact noeq_leaf h.1 h.2
 | un o t ih =>
  have hc : o = 7 ∨ o = 8 ∨ o = 9 ∨ o = 10 := by have := h.1; have := h.2.1; omega
  rcases hc with rfl | rfl | rfl | rfl
  ·exact ⟨45, _, rfl, by decide⟩
  ·exact ⟨33, _, rfl, by decide⟩
  ·exact ⟨114, _, rfl, by decide⟩
  ·exact ⟨105, _, rfl, by decide⟩
 | bin o l r ihl ihr =>
  show NoEq (joinP (opC o) (pcT l) (pcT r)).1
  rw [joinP_bin h.1]
  exact noeq_append (noeq_append (noeq_in (ihl h.2.2.1)))
end Go.Proofs.YtdelihhbmagphaaGreatDoor
