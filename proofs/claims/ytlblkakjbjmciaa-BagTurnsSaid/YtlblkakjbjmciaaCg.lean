/- Layers 17 and 18 as mathematics: bags, ends of a link; whatever is lost, doubled, held back or turned by a bit: what is read is what was sent. -/
import Derived.Test.YtlblkakjbjmciaaCf
namespace Go.Proofs.Ytlblkakjbjmciaa.Wi

/-- what stands in a bag: a datagram, and whether a bit of it was turned -/
abbrev Bag := List (Bytes × Bool)
def bagPut (b : Bag) (s : Bytes) : Bag := if b.length < 16 then b ++ [(s, false)] else b
def bagDrop (b : Bag) (i : Nat) : Bag := b.eraseIdx i
def bagTwice (b : Bag) (i : Nat) : Bag := match b[i]? with | some x => if b.length < 16 then b ++ [x] else b | none => b
def turnC (s : Bytes) (n : Nat) : Bytes := match s[n / 8]? with | some c => s.set (n / 8) (c ^^^ UInt8.ofNat (2 ^ (n % 8))) | none => s
def bagTurn (b : Bag) (i n : Nat) : Bag := match b[i]? with | some (s, false) => if s = [] then b else b.set i (turnC s (n % (8 * s.length)), true) | _ => b

structure LinkM where
  loads : List Bytes
  told : Nat
  sent : Nat
  inn : List (Option Bytes)
  taken : Nat
  goes : List Bytes
def newL : LinkM := ⟨[], 0, 0, [], 0, []⟩
def cameM (l : List (Option Bytes)) : Nat := (l.takeWhile Option.isSome).length
def putM (l : LinkM) (k n : Nat) (load : Bytes) : LinkM := { l with goes := if l.goes.length < 64 then l.goes ++ [sealC (dataT k n load)] else l.goes }
def onM : Nat → LinkM → LinkM
  | 0, l => l
  | f + 1, l => if l.sent < l.loads.length ∧ l.sent < l.told + 8 then onM f (putM { l with sent := l.sent + 1 } 1 (l.sent + 1) (l.loads.getD l.sent [])) else l
def sendM (l : LinkM) (x : Bytes) : LinkM × Int :=
  if 800 < x.length then (l, 4) else if l.loads.length - l.told = 64 then (l, 10) else (onM (l.loads.length + 1 - l.sent) { l with loads := l.loads ++ [x] }, 0)
def roomM (l : List (Option Bytes)) (n : Nat) : List (Option Bytes) := l ++ List.replicate (n - l.length) none
def cameIn (l : LinkM) (n : Nat) (x : Bytes) : LinkM :=
  if l.taken < n ∧ n ≤ l.taken + 8 then (match (roomM l.inn n)[n - 1]? with | some none => { l with inn := (roomM l.inn n).set (n - 1) (some x) } | _ => { l with inn := roomM l.inn n }) else l
def getM (l : LinkM) (s : Bytes) : LinkM × Int :=
  if (unpackC s).2 ≠ 0 then (l, (unpackC s).2)
  else if (unpackC s).1.1 = 1 then (putM (cameIn l (unpackC s).1.2.1 (unpackC s).1.2.2) 2 (cameM (cameIn l (unpackC s).1.2.1 (unpackC s).1.2.2).inn) [], 0)
  else if l.sent < (unpackC s).1.2.1 then (l, 5)
  else if l.told < (unpackC s).1.2.1 then (onM (l.loads.length - l.sent) { l with told := (unpackC s).1.2.1 }, 0) else (l, 0)
def tickM : Nat → Nat → LinkM → LinkM
  | 0, _, l => l
  | f + 1, n, l => if n ≤ l.sent then tickM f (n + 1) (putM l 1 n (l.loads.getD (n - 1) [])) else l
def recvM (l : LinkM) : LinkM × Option Bytes := if cameM l.inn ≤ l.taken then (l, none) else ({ l with taken := l.taken + 1 }, some ((l.inn.getD l.taken none).getD []))

/-- one bit, turned, stands within four bytes next to one another -/
theorem pow_byte {j : Nat} (h : j < 8) : UInt8.ofNat (2 ^ j) ≠ 0 := by
  intro e
  have := congrArg UInt8.toNat e
  rw [UInt8.toNat_ofNat'] at this
  have h2 : 2 ^ j < 2 ^ 8 := Nat.pow_lt_pow_right (by decide) h
  rw [Nat.mod_eq_of_lt h2] at this
  have h3 : 0 < 2 ^ j := Nat.two_pow_pos j
  have h4 : (0 : UInt8).toNat = 0 := rfl
  omega
theorem xor_zeros : ∀ (l : Bytes), xorL l (zerosL l.length) = l
  | [] => rfl
  | b :: r => by
    show (b ^^^ 0) :: xorL r (zerosL r.length) = _
    rw [xor_zeros r, UInt8.xor_zero]
theorem xor_app (a b c d : Bytes) (h : a.length = c.length) : xorL (a ++ b) (c ++ d) = xorL a c ++ xorL b d := List.zipWith_append h
theorem xor_one (s : Bytes) (k : Nat) (c v : UInt8) (h : s[k]? = some c) : s.set k (c ^^^ v) = xorL s (zerosL k ++ [v] ++ zerosL (s.length - k - 1)) := by
  have hk : k < s.length := by
    rcases Nat.lt_or_ge k s.length with h1 | h1
    · exact h1
    · rw [List.getElem?_eq_none h1] at h; cases h
  have hc : s[k] = c := by rw [List.getElem?_eq_getElem hk] at h; exact Option.some.inj h
  have hs : s = s.take k ++ (c :: s.drop (k + 1)) := by rw [← hc, ← List.drop_eq_getElem_cons hk, List.take_append_drop]
  have hl : (s.take k).length = k := by rw [List.length_take]; omega
  have hd : (s.drop (k + 1)).length = s.length - k - 1 := by rw [List.length_drop]; omega
  rw [List.append_assoc]
  conv => rhs; rw [hs]
  rw [xor_app _ _ _ _ (by rw [hl]; unfold zerosL; rw [List.length_replicate])]
  have e1 : xorL (s.take k) (zerosL k) = s.take k := by have := xor_zeros (s.take k); rwa [hl] at this
  have e2 : xorL (c :: s.drop (k + 1)) ([v] ++ zerosL (s.length - k - 1)) = (c ^^^ v) :: s.drop (k + 1) := by
    show (c ^^^ v) :: xorL (s.drop (k + 1)) (zerosL (s.length - k - 1)) = _
    have := xor_zeros (s.drop (k + 1))
    rw [hd] at this
    rw [this]
  have hz : (s.take k ++ (c :: s.drop (k + 1))).length - k - 1 = s.length - k - 1 := by rw [← hs]
  rw [hz, e1, e2]
  conv => lhs; rw [hs]
  rw [List.set_append_right _ _ (by rw [hl]; exact Nat.le_refl _), hl, Nat.sub_self]
  rfl
/-- a bit of a datagram, turned, is told -/
theorem turn_told {k n : Nat} {load : Bytes} (hk : k = 1 ∨ k = 2 ∧ load = []) (hl : load.length ≤ 800) (i : Nat) (hi : i < 8 * (sealC (dataT k n load)).length) : unpackC (turnC (sealC (dataT k n load)) i) = (noData, 13) := by
  have hp : packC (k : Int) n load = (sealC (dataT k n load), 0) := by
    unfold packC
    rw [if_neg (by rintro (h | h | ⟨h1, h2⟩); omega; omega; rcases hk with h | ⟨_, h⟩; omega; exact h2 h), if_neg (by omega), Int.toNat_natCast]
  obtain ⟨s, hs⟩ : ∃ s, sealC (dataT k n load) = s := ⟨_, rfl⟩
  rw [hs] at hi hp ⊢
  have h13 : 13 ≤ s.length := by rw [← hs, seal_len, data_len]; omega
  have hb : i / 8 < s.length := by omega
  unfold turnC
  rw [List.getElem?_eq_getElem hb]
  simp only
  rw [xor_one s (i / 8) s[i / 8] _ (List.getElem?_eq_getElem hb)]
  have hv := pow_byte (show i % 8 < 8 by omega)
  generalize UInt8.ofNat (2 ^ (i % 8)) = v at *
  generalize i / 8 = j at *
  obtain ⟨a, ha⟩ : ∃ a, min j (s.length - 4) = a := ⟨_, rfl⟩
  have h1 : a ≤ j := by omega
  have h2 : j - a < 4 := by omega
  have h3 : a + 4 ≤ s.length := by omega
  have hm : zerosL j ++ [v] ++ zerosL (s.length - j - 1) = zerosL a ++ (zerosL (j - a) ++ [v] ++ zerosL (3 - (j - a))) ++ zerosL (s.length - 4 - a) := by
    have e1 : zerosL j = zerosL a ++ zerosL (j - a) := by unfold zerosL; rw [List.replicate_append_replicate]; congr 1; omega
    have e2 : zerosL (s.length - j - 1) = zerosL (3 - (j - a)) ++ zerosL (s.length - 4 - a) := by unfold zerosL; rw [List.replicate_append_replicate]; congr 1; omega
    rw [e1, e2]
    simp only [List.append_assoc]
  have h4 := data_turned (k := (k : Int)) (n := n) (load := load) (m := zerosL (j - a) ++ [v] ++ zerosL (3 - (j - a))) (i := a) (j := s.length - 4 - a) (by rw [hp]) (by unfold zerosL; simp; omega) (by rw [hp]; show a + 4 + (s.length - 4 - a) = s.length; omega) (fun e => by
    have h5 : (zerosL (j - a) ++ [v] ++ zerosL (3 - (j - a)))[j - a]? = (zerosL 4)[j - a]? := by rw [e]
    have h6 : (zerosL (j - a) ++ [v] ++ zerosL (3 - (j - a)))[j - a]? = some v := by unfold zerosL; simp
    have h7 : (zerosL 4)[j - a]? = some 0 := by unfold zerosL; rw [List.getElem?_replicate, if_pos h2]
    rw [h6, h7] at h5
    exact hv (Option.some.inj h5))
  rw [hp] at h4
  rw [hm]
  exact h4

theorem came_le : ∀ l : List (Option Bytes), cameM l ≤ l.length
  | [] => Nat.le_refl _
  | none :: r => Nat.zero_le _
  | some x :: r => by show (cameM r) + 1 ≤ r.length + 1; exact Nat.succ_le_succ (came_le r)
theorem came_some : ∀ (l : List (Option Bytes)) (n : Nat), n < cameM l → ∃ x, l[n]? = some (some x)
  | [], n, h => absurd h (Nat.not_lt_zero _)
  | none :: r, n, h => absurd h (Nat.not_lt_zero _)
  | some x :: r, 0, _ => ⟨x, rfl⟩
  | some x :: r, n + 1, h => by
    obtain ⟨y, hy⟩ := came_some r n (by have : n + 1 < cameM r + 1 := h; omega)
    exact ⟨y, by rw [List.getElem?_cons_succ]; exact hy⟩
theorem came_ge : ∀ (l : List (Option Bytes)) (k : Nat), (∀ n : Nat, n < k → ∃ x, l[n]? = some (some x)) → k ≤ cameM l
  | _, 0, _ => Nat.zero_le _
  | [], k + 1, h => by obtain ⟨x, hx⟩ := h 0 (by omega); cases hx
  | none :: r, k + 1, h => by obtain ⟨x, hx⟩ := h 0 (by omega); cases hx
  | some x :: r, k + 1, h => by
    have := came_ge r k (fun n hn => by obtain ⟨y, hy⟩ := h (n + 1) (by omega); exact ⟨y, by rw [List.getElem?_cons_succ] at hy; exact hy⟩)
    show k + 1 ≤ cameM r + 1
    omega
theorem came_mono {l m : List (Option Bytes)} (h : ∀ (n : Nat) (x : Bytes), l[n]? = some (some x) → ∃ y, m[n]? = some (some y)) : cameM l ≤ cameM m :=
  came_ge m _ fun n hn => by obtain ⟨x, hx⟩ := came_some l n hn; exact h n x hx

/-- what an end may have sent -/
def Gen (A : LinkM) (s : Bytes) : Prop := (∃ (n : Nat) (x : Bytes), n < A.sent ∧ A.loads[n]? = some x ∧ s = sealC (dataT 1 (n + 1) x)) ∨ ∃ n, n ≤ cameM A.inn ∧ s = sealC (dataT 2 n [])
structure Ext (A B : LinkM) : Prop where
  loads : ∀ (n : Nat) (x : Bytes), A.loads[n]? = some x → B.loads[n]? = some x
  sent : A.sent ≤ B.sent
  came : cameM A.inn ≤ cameM B.inn
theorem Ext.refl (A : LinkM) : Ext A A := ⟨fun _ _ h => h, Nat.le_refl _, Nat.le_refl _⟩
theorem Ext.trans {A B C : LinkM} (h : Ext A B) (k : Ext B C) : Ext A C := ⟨fun n x e => k.loads n x (h.loads n x e), Nat.le_trans h.sent k.sent, Nat.le_trans h.came k.came⟩
theorem Gen.ext {A B : LinkM} {s : Bytes} (h : Gen A s) (k : Ext A B) : Gen B s := by
  rcases h with ⟨n, x, h1, h2, h3⟩ | ⟨n, h1, h2⟩
  · exact Or.inl ⟨n, x, Nat.lt_of_lt_of_le h1 k.sent, k.loads n x h2, h3⟩
  · exact Or.inr ⟨n, Nat.le_trans h1 k.came, h2⟩
/-- an end by itself -/
structure EndI (A : LinkM) : Prop where
  small : ∀ x ∈ A.loads, x.length ≤ 800
  sent : A.sent ≤ A.loads.length
  told : A.told ≤ A.sent
  win : A.sent ≤ A.told + 8
  full : A.loads.length ≤ A.told + 64
  taken : A.taken ≤ cameM A.inn
  room : A.inn.length ≤ A.taken + 8
  goes : ∀ s ∈ A.goes, Gen A s
/-- what is told of one end at the other one, and what is on its way -/
structure Half (A B : LinkM) (bag : Bag) : Prop where
  bag : ∀ p ∈ bag, (p.2 = false → Gen A p.1) ∧ (p.2 = true → unpackC p.1 = (noData, 13))
  inn : ∀ (n : Nat) (x : Bytes), B.inn[n]? = some (some x) → n < A.sent ∧ A.loads[n]? = some x
  told : A.told ≤ cameM B.inn
theorem newL_I : EndI newL := ⟨(fun x hx => by cases hx), Nat.le_refl _, Nat.le_refl _, by decide, by decide, Nat.le_refl _, by decide, (fun s hs => by cases hs)⟩
theorem half_new : Half newL newL [] := ⟨(fun p hp => by cases hp), (fun n x h => by cases h), Nat.le_refl _⟩
theorem put_goes {l : LinkM} {k n : Nat} {x s : Bytes} (h : s ∈ (putM l k n x).goes) : s ∈ l.goes ∨ s = sealC (dataT k n x) := by
  unfold putM at h
  simp only at h
  split at h
  · rcases List.mem_append.1 h with h | h
    · exact Or.inl h
    · exact Or.inr (List.mem_singleton.1 h)
  · exact Or.inl h
theorem put_I {l : LinkM} (h : EndI l) {k n : Nat} {x : Bytes} (hg : Gen l (sealC (dataT k n x))) : EndI (putM l k n x) ∧ Ext l (putM l k n x) := by
  have he : Ext l (putM l k n x) := ⟨fun _ _ e => e, Nat.le_refl _, Nat.le_refl _⟩
  refine ⟨⟨h.small, h.sent, h.told, h.win, h.full, h.taken, h.room, fun s hs => ?_⟩, he⟩
  rcases put_goes hs with h1 | h1
  · exact (h.goes s h1).ext he
  · rw [h1]; exact hg.ext he
/-- what a call leaves as it was -/
structure Kept (A B : LinkM) : Prop where
  loads : B.loads = A.loads
  told : B.told = A.told
  inn : B.inn = A.inn
  taken : B.taken = A.taken
theorem on_I : ∀ (f : Nat) {l : LinkM}, EndI l → EndI (onM f l) ∧ Ext l (onM f l) ∧ Kept l (onM f l)
  | 0, l, h => ⟨h, Ext.refl l, ⟨rfl, rfl, rfl, rfl⟩⟩
  | f + 1, l, h => by
    unfold onM
    by_cases hc : l.sent < l.loads.length ∧ l.sent < l.told + 8
    · rw [if_pos hc]
      have he : Ext l { l with sent := l.sent + 1 } := ⟨fun _ _ e => e, Nat.le_succ _, Nat.le_refl _⟩
      have h1 : EndI { l with sent := l.sent + 1 } := ⟨h.small, hc.1, by have := h.told; show l.told ≤ l.sent + 1; omega, by have := hc.2; show l.sent + 1 ≤ l.told + 8; omega, h.full, h.taken, h.room, fun s hs => (h.goes s hs).ext he⟩
      have hg : Gen { l with sent := l.sent + 1 } (sealC (dataT 1 (l.sent + 1) (l.loads.getD l.sent []))) := Or.inl ⟨l.sent, l.loads[l.sent]'hc.1, Nat.lt_succ_self _, List.getElem?_eq_getElem hc.1, by rw [List.getD_eq_getElem?_getD, List.getElem?_eq_getElem hc.1]; rfl⟩
      obtain ⟨h2, h3⟩ := put_I h1 hg
      obtain ⟨h4, h5, h6⟩ := on_I f h2
      exact ⟨h4, (he.trans h3).trans h5, ⟨h6.loads, h6.told, h6.inn, h6.taken⟩⟩
    · rw [if_neg hc]
      exact ⟨h, Ext.refl l, ⟨rfl, rfl, rfl, rfl⟩⟩
theorem send_I {l : LinkM} (h : EndI l) (x : Bytes) : EndI (sendM l x).1 ∧ Ext l (sendM l x).1 ∧ (sendM l x).1.inn = l.inn ∧ (sendM l x).1.told = l.told ∧ (sendM l x).1.taken = l.taken ∧ (sendM l x).1.loads = (if (sendM l x).2 = 0 then l.loads ++ [x] else l.loads) := by
  unfold sendM
  by_cases h1 : 800 < x.length
  · rw [if_pos h1]; exact ⟨h, Ext.refl l, rfl, rfl, rfl, rfl⟩
  rw [if_neg h1]
  by_cases h2 : l.loads.length - l.told = 64
  · rw [if_pos h2]; exact ⟨h, Ext.refl l, rfl, rfl, rfl, rfl⟩
  rw [if_neg h2]
  have he : Ext l { l with loads := l.loads ++ [x] } := ⟨fun n y e => by
    have hn : n < l.loads.length := by
      rcases Nat.lt_or_ge n l.loads.length with h3 | h3
      · exact h3
      · rw [List.getElem?_eq_none h3] at e; cases e
    show (l.loads ++ [x])[n]? = some y
    rw [List.getElem?_append_left hn]; exact e, Nat.le_refl _, Nat.le_refl _⟩
  have h3 : EndI { l with loads := l.loads ++ [x] } := ⟨fun y hy => by
    rcases List.mem_append.1 hy with hy | hy
    · exact h.small y hy
    · rw [List.mem_singleton.1 hy]; omega, by have := h.sent; show l.sent ≤ (l.loads ++ [x]).length; rw [List.length_append]; omega, h.told, h.win, by have h5 := h.full; have h6 := h.sent; have h7 := h.told; show (l.loads ++ [x]).length ≤ l.told + 64; rw [List.length_append, List.length_singleton]; omega, h.taken, h.room, fun s hs => (h.goes s hs).ext he⟩
  obtain ⟨h4, h5, h6⟩ := on_I (l.loads.length + 1 - l.sent) h3
  exact ⟨h4, he.trans h5, h6.inn, h6.told, h6.taken, by rw [h6.loads]; rfl⟩
theorem tick_I : ∀ (f n : Nat) {l : LinkM}, EndI l → 1 ≤ n → EndI (tickM f n l) ∧ Ext l (tickM f n l) ∧ Kept l (tickM f n l)
  | 0, _, l, h, _ => ⟨h, Ext.refl l, ⟨rfl, rfl, rfl, rfl⟩⟩
  | f + 1, n, l, h, hn => by
    unfold tickM
    by_cases hc : n ≤ l.sent
    · rw [if_pos hc]
      have hl : n - 1 < l.loads.length := by have := h.sent; omega
      have hg : Gen l (sealC (dataT 1 n (l.loads.getD (n - 1) []))) := Or.inl ⟨n - 1, l.loads[n - 1]'hl, by omega, List.getElem?_eq_getElem hl, by rw [List.getD_eq_getElem?_getD, List.getElem?_eq_getElem hl, show n - 1 + 1 = n by omega]; rfl⟩
      obtain ⟨h2, h3⟩ := put_I h hg
      obtain ⟨h4, h5, h6⟩ := tick_I f (n + 1) h2 (by omega)
      exact ⟨h4, h3.trans h5, ⟨h6.loads, h6.told, h6.inn, h6.taken⟩⟩
    · rw [if_neg hc]
      exact ⟨h, Ext.refl l, ⟨rfl, rfl, rfl, rfl⟩⟩

theorem room_len (l : List (Option Bytes)) (m : Nat) : (roomM l m).length = max l.length m := by unfold roomM; rw [List.length_append, List.length_replicate]; omega
theorem room_at {l : List (Option Bytes)} {m i : Nat} {y : Bytes} : (roomM l m)[i]? = some (some y) ↔ l[i]? = some (some y) := by
  unfold roomM
  rcases Nat.lt_or_ge i l.length with h | h
  · rw [List.getElem?_append_left h]
  · rw [List.getElem?_append_right h, List.getElem?_eq_none h, List.getElem?_replicate]
    constructor
    · intro e; split at e <;> cases e
    · intro e; cases e
theorem set_at {l : List (Option Bytes)} {n i : Nat} {x y : Bytes} (h : (l.set n (some x))[i]? = some (some y)) : (i = n ∧ y = x) ∨ l[i]? = some (some y) := by
  by_cases hi : n = i
  · subst hi
    rw [List.getElem?_set_self'] at h
    match hl : l[n]?, h with
    | some z, h =>
      simp at h
      exact Or.inl ⟨rfl, h.symm⟩
    | none, h => simp at h
  · rw [List.getElem?_set_ne hi] at h
    exact Or.inr h
structure SameE (A B : LinkM) : Prop where
  loads : B.loads = A.loads
  told : B.told = A.told
  sent : B.sent = A.sent
  taken : B.taken = A.taken
  goes : B.goes = A.goes
theorem in_I {B B2 : LinkM} (h : EndI B) (hs : SameE B B2) (hm : cameM B.inn ≤ cameM B2.inn) (hr : B2.inn.length ≤ B.taken + 8) : EndI B2 ∧ Ext B B2 := by
  have he : Ext B B2 := ⟨fun n x e => by rw [hs.loads]; exact e, by rw [hs.sent]; exact Nat.le_refl _, hm⟩
  refine ⟨⟨by rw [hs.loads]; exact h.small, by rw [hs.loads, hs.sent]; exact h.sent, by rw [hs.told, hs.sent]; exact h.told, by rw [hs.told, hs.sent]; exact h.win, by rw [hs.told, hs.loads]; exact h.full, by rw [hs.taken]; exact Nat.le_trans h.taken hm, by rw [hs.taken]; exact hr, fun s hg => ?_⟩, he⟩
  rw [hs.goes] at hg
  exact (h.goes s hg).ext he
theorem came_in {A B : LinkM} {bag : Bag} (hB : EndI B) (h : Half A B bag) {n : Nat} {x : Bytes} (hn : n < A.sent) (hx : A.loads[n]? = some x) :
    EndI (cameIn B (n + 1) x) ∧ Ext B (cameIn B (n + 1) x) ∧ Half A (cameIn B (n + 1) x) bag ∧ SameE B (cameIn B (n + 1) x) := by
  have room : ∀ B2 : LinkM, SameE B B2 → B.taken < n + 1 ∧ n + 1 ≤ B.taken + 8 → (B2.inn = roomM B.inn (n + 1) ∨ B2.inn = (roomM B.inn (n + 1)).set n (some x) ∧ (roomM B.inn (n + 1))[n]? = some none) → EndI B2 ∧ Ext B B2 ∧ Half A B2 bag ∧ SameE B B2 := by
    intro B2 hs hc hi
    have hlen : B2.inn.length ≤ B.taken + 8 := by
      have h1 := room_len B.inn (n + 1)
      have h2 := hB.room
      rcases hi with e | ⟨e, _⟩ <;> rw [e]
      · omega
      · rw [List.length_set]; omega
    have hmono : ∀ (i : Nat) (y : Bytes), B.inn[i]? = some (some y) → ∃ z, B2.inn[i]? = some (some z) := by
      intro i y hy
      have h1 := room_at (m := n + 1).2 hy
      rcases hi with e | ⟨e, he⟩ <;> rw [e]
      · exact ⟨y, h1⟩
      · by_cases hin : n = i
        · subst hin; rw [h1] at he; cases he
        · exact ⟨y, by rw [List.getElem?_set_ne hin]; exact h1⟩
    obtain ⟨h3, h4⟩ := in_I hB hs (came_mono hmono) hlen
    refine ⟨h3, h4, ⟨h.bag, fun i y hy => ?_, Nat.le_trans h.told (came_mono hmono)⟩, hs⟩
    rcases hi with e | ⟨e, he⟩ <;> rw [e] at hy
    · exact h.inn i y (room_at.1 hy)
    · rcases set_at hy with ⟨h5, h6⟩ | h5
      · rw [h5, h6]; exact ⟨hn, hx⟩
      · exact h.inn i y (room_at.1 h5)
  unfold cameIn
  by_cases hc : B.taken < n + 1 ∧ n + 1 ≤ B.taken + 8
  · rw [if_pos hc, show n + 1 - 1 = n from rfl]
    split
    · next he => exact room _ ⟨rfl, rfl, rfl, rfl, rfl⟩ hc (Or.inr ⟨rfl, he⟩)
    · exact room _ ⟨rfl, rfl, rfl, rfl, rfl⟩ hc (Or.inl rfl)
  · rw [if_neg hc]
    exact ⟨hB, Ext.refl B, h, ⟨rfl, rfl, rfl, rfl, rfl⟩⟩
/-- two ends, and what is between them -/
structure Inv (A B : LinkM) (ab ba : Bag) : Prop where
  a : EndI A
  b : EndI B
  ab : Half A B ab
  ba : Half B A ba
theorem Inv.swap {A B : LinkM} {ab ba : Bag} (h : Inv A B ab ba) : Inv B A ba ab := ⟨h.b, h.a, h.ba, h.ab⟩
theorem Half.grow {A A2 B : LinkM} {bag : Bag} (h : Half A B bag) (he : Ext A A2) (ht : A2.told ≤ cameM B.inn) : Half A2 B bag :=
  ⟨fun p hp => ⟨fun e => ((h.bag p hp).1 e).ext he, (h.bag p hp).2⟩, fun n x hx => ⟨Nat.lt_of_lt_of_le (h.inn n x hx).1 he.sent, he.loads n x (h.inn n x hx).2⟩, ht⟩
theorem Half.same {A B B2 : LinkM} {bag : Bag} (h : Half A B bag) (hi : B2.inn = B.inn) : Half A B2 bag := ⟨h.bag, by rw [hi]; exact h.inn, by rw [hi]; exact h.told⟩
theorem Half.sub {A B : LinkM} {bag bag2 : Bag} (h : Half A B bag) (hs : ∀ p ∈ bag2, p ∈ bag) : Half A B bag2 := ⟨fun p hp => h.bag p (hs p hp), h.inn, h.told⟩
theorem unpack_gen {k n : Nat} {x : Bytes} (hk : k = 1 ∨ k = 2 ∧ x = []) (hl : x.length ≤ 800) (hn : n < 18446744073709551616) : unpackC (sealC (dataT k n x)) = (((k : Int), n, x), 0) := by
  have hp : packC (k : Int) n x = (sealC (dataT k n x), 0) := by
    unfold packC
    rw [if_neg (by rintro (h | h | ⟨h1, h2⟩); omega; omega; rcases hk with h | ⟨_, h⟩; omega; exact h2 h), if_neg (by omega), Int.toNat_natCast]
  have := unpack_pack (k := (k : Int)) (load := x) hn (by rw [hp])
  rwa [hp] at this
/-- a datagram of A's arrives at B -/
theorem get_I {A B : LinkM} {ab ba : Bag} (h : Inv A B ab ba) (hN : A.loads.length < 4611686018427387904) {p : Bytes × Bool} (hp : p ∈ ab) (hC : cameM A.inn < 4611686018427387904) : Inv A (getM B p.1).1 ab ba := by
  obtain ⟨hg, ht⟩ := h.ab.bag p hp
  obtain ⟨s, t⟩ := p
  simp only at hg ht ⊢
  cases t with
  | true =>
    unfold getM
    rw [ht rfl, if_pos (by decide)]
    exact h
  | false =>
    rcases hg rfl with ⟨n, x, h1, h2, h3⟩ | ⟨n, h1, h3⟩
    · have hx : x.length ≤ 800 := h.a.small x (List.mem_of_getElem? h2)
      have hu := unpack_gen (k := 1) (n := n + 1) (x := x) (Or.inl rfl) hx (by have := h.a.sent; omega)
      rw [← h3] at hu
      unfold getM
      rw [hu]
      simp only
      rw [if_neg (fun e => e rfl), if_pos (show ((1 : Nat) : Int) = 1 from rfl)]
      obtain ⟨h4, h5, h6, h7⟩ := came_in h.b h.ab h1 h2
      obtain ⟨h8, h9⟩ := put_I h4 (k := 2) (n := cameM (cameIn B (n + 1) x).inn) (x := []) (Or.inr ⟨_, Nat.le_refl _, rfl⟩)
      exact ⟨h.a, h8, h6.same rfl, h.ba.grow (h5.trans h9) (by show (cameIn B (n + 1) x).told ≤ _; rw [h7.told]; exact h.ba.told)⟩
    · have hu := unpack_gen (k := 2) (n := n) (x := []) (Or.inr ⟨rfl, rfl⟩) (Nat.zero_le _) (by omega)
      rw [← h3] at hu
      unfold getM
      rw [hu]
      simp only
      rw [if_neg (fun e => e rfl), if_neg (by decide)]
      by_cases h4 : B.sent < n
      · rw [if_pos h4]; exact h
      rw [if_neg h4]
      by_cases h5 : B.told < n
      · rw [if_pos h5]
        have he : Ext B { B with told := n } := ⟨fun _ _ e => e, Nat.le_refl _, Nat.le_refl _⟩
        have hB : EndI { B with told := n } := ⟨h.b.small, h.b.sent, by show n ≤ B.sent; omega, by have := h.b.win; show B.sent ≤ n + 8; omega, by have := h.b.full; show B.loads.length ≤ n + 64; omega, h.b.taken, h.b.room, fun s hs => (h.b.goes s hs).ext he⟩
        obtain ⟨h6, h7, h8⟩ := on_I (B.loads.length - B.sent) hB
        exact ⟨h.a, h6, h.ab.same h8.inn, h.ba.grow (he.trans h7) (by rw [h8.told]; exact h1)⟩
      · rw [if_neg h5]; exact h
theorem send_Inv {A B : LinkM} {ab ba : Bag} (h : Inv A B ab ba) (x : Bytes) : Inv (sendM A x).1 B ab ba := by
  obtain ⟨h1, h2, h3, h4, _, _⟩ := send_I h.a x
  exact ⟨h1, h.b, h.ab.grow h2 (by rw [h4]; exact h.ab.told), h.ba.same h3⟩
theorem tick_Inv {A B : LinkM} {ab ba : Bag} (h : Inv A B ab ba) (f n : Nat) (hn : 1 ≤ n) : Inv (tickM f n A) B ab ba := by
  obtain ⟨h1, h2, h3⟩ := tick_I f n h.a hn
  exact ⟨h1, h.b, h.ab.grow h2 (by rw [h3.told]; exact h.ab.told), h.ba.same h3.inn⟩
/-- what is read is what was sent -/
theorem recv_Inv {A B : LinkM} {ab ba : Bag} (h : Inv A B ab ba) : Inv A (recvM B).1 ab ba ∧ ((recvM B).2 = none ∧ (recvM B).1.taken = B.taken ∨ ∃ x, (recvM B).2 = some x ∧ A.loads[B.taken]? = some x ∧ (recvM B).1.taken = B.taken + 1) := by
  unfold recvM
  by_cases hc : cameM B.inn ≤ B.taken
  · rw [if_pos hc]; exact ⟨h, Or.inl ⟨rfl, rfl⟩⟩
  rw [if_neg hc]
  obtain ⟨x, hx⟩ := came_some B.inn B.taken (by omega)
  have he : Ext B { B with taken := B.taken + 1 } := ⟨fun _ _ e => e, Nat.le_refl _, Nat.le_refl _⟩
  refine ⟨⟨h.a, ⟨h.b.small, h.b.sent, h.b.told, h.b.win, h.b.full, by show B.taken + 1 ≤ cameM B.inn; omega, by have := h.b.room; show B.inn.length ≤ B.taken + 1 + 8; omega, fun s hs => (h.b.goes s hs).ext he⟩, h.ab.same rfl, h.ba.grow he h.ba.told⟩, Or.inr ⟨x, ?_, (h.ab.inn _ _ hx).2, rfl⟩⟩
  simp only
  rw [List.getD_eq_getElem?_getD, hx]; rfl
theorem flush_Inv {A B : LinkM} {ab ba : Bag} (h : Inv A B ab ba) : Inv { A with goes := [] } B (A.goes.foldl bagPut ab) ba := by
  have he : Ext A { A with goes := [] } := ⟨fun _ _ e => e, Nat.le_refl _, Nat.le_refl _⟩
  have hf : ∀ (l : List Bytes) (b : Bag), (∀ s ∈ l, Gen A s) → Half A B b → Half A B (l.foldl bagPut b) := by
    intro l
    induction l with
    | nil => exact fun b _ hb => hb
    | cons s r ih =>
      intro b hl hb
      refine ih _ (fun u hu => hl u (List.mem_cons_of_mem _ hu)) ⟨fun p hp => ?_, hb.inn, hb.told⟩
      unfold bagPut at hp
      split at hp
      · rcases List.mem_append.1 hp with h1 | h1
        · exact hb.bag p h1
        · rw [List.mem_singleton.1 h1]
          exact ⟨fun _ => hl s List.mem_cons_self, fun e => by cases e⟩
      · exact hb.bag p hp
  exact ⟨⟨h.a.small, h.a.sent, h.a.told, h.a.win, h.a.full, h.a.taken, h.a.room, (fun s hs => by cases hs)⟩, h.b, (hf A.goes ab h.a.goes h.ab).grow he h.ab.told, h.ba.same rfl⟩
theorem bag_Inv {A B : LinkM} {ab ba ab2 : Bag} (h : Inv A B ab ba) (hs : ∀ p ∈ ab2, p ∈ ab ∨ ∃ q i, (q, false) ∈ ab ∧ i < 8 * q.length ∧ p = (turnC q i, true)) : Inv A B ab2 ba :=
  ⟨h.a, h.b, ⟨fun p hp => by
    rcases hs p hp with h1 | ⟨q, i, h1, h2, h3⟩
    · exact h.ab.bag p h1
    · rw [h3]
      refine ⟨(fun e => by cases e), fun _ => ?_⟩
      rcases (h.ab.bag _ h1).1 rfl with ⟨n, x, h4, h5, h6⟩ | ⟨n, h4, h6⟩
      · simp only at h6
        rw [h6] at h2 ⊢
        exact turn_told (Or.inl rfl) (h.a.small x (List.mem_of_getElem? h5)) i h2
      · simp only at h6
        rw [h6] at h2 ⊢
        exact turn_told (Or.inr ⟨rfl, rfl⟩) (Nat.zero_le _) i h2, h.ab.inn, h.ab.told⟩, h.ba⟩

theorem came_sent {A B : LinkM} {bag : Bag} (h : Half A B bag) : cameM B.inn ≤ A.sent := by
  rcases Nat.eq_zero_or_pos (cameM B.inn) with h0 | h0
  · omega
  · obtain ⟨x, hx⟩ := came_some B.inn (cameM B.inn - 1) (by omega)
    have := (h.inn _ x hx).1
    omega
theorem came_room {B : LinkM} (h : EndI B) : cameM B.inn ≤ B.taken + 8 := Nat.le_trans (came_le _) h.room
/-- .. so what was read begins what was sent -/
structure Reading (A B : LinkM) (sent read : List Bytes) : Prop where
  sent : sent = A.loads
  read : read = A.loads.take B.taken
theorem Reading.taken_le {A B : LinkM} {ab ba : Bag} (h : Inv A B ab ba) : B.taken ≤ A.loads.length := Nat.le_trans h.b.taken (Nat.le_trans (came_sent h.ab) h.a.sent)
theorem Reading.begins {A B : LinkM} {ab ba : Bag} {sent read : List Bytes} (hr : Reading A B sent read) (h : Inv A B ab ba) : read.length ≤ sent.length ∧ read = sent.take read.length := by
  have h1 := Reading.taken_le h
  rw [hr.sent, hr.read, List.length_take, Nat.min_eq_left h1]
  exact ⟨h1, rfl⟩
theorem Reading.recv {A B : LinkM} {ab ba : Bag} {sent read : List Bytes} (hr : Reading A B sent read) (h : Inv A B ab ba) : Reading A (recvM B).1 sent (read ++ (recvM B).2.toList) := by
  rcases (recv_Inv h).2 with ⟨h1, h2⟩ | ⟨x, h1, h2, h3⟩
  · exact ⟨hr.sent, by rw [h1, h2, hr.read]; simp⟩
  · refine ⟨hr.sent, ?_⟩
    have hl : B.taken < A.loads.length := by
      rcases Nat.lt_or_ge B.taken A.loads.length with h4 | h4
      · exact h4
      · rw [List.getElem?_eq_none h4] at h2; cases h2
    have hx : A.loads[B.taken] = x := by rw [List.getElem?_eq_getElem hl] at h2; exact Option.some.inj h2
    rw [h1, h3, hr.read, List.take_succ_eq_append_getElem hl, hx]; rfl
theorem Reading.send {A B : LinkM} {ab ba : Bag} {sent read : List Bytes} (hr : Reading A B sent read) (h : Inv A B ab ba) (x : Bytes) : Reading (sendM A x).1 B (if (sendM A x).2 = 0 then sent ++ [x] else sent) read := by
  obtain ⟨_, _, _, _, _, h6⟩ := send_I h.a x
  refine ⟨by rw [h6, hr.sent], ?_⟩
  rw [h6, hr.read]
  split
  · rw [List.take_append_of_le_length (Reading.taken_le h)]
  · rfl
end Go.Proofs.Ytlblkakjbjmciaa.Wi
