/- Layer 15 as mathematics: the sum of bytes, bit by bit; what turned bits do to it. -/
import Derived.Lib.Hide
namespace Go.Proofs.Ytlblkakjbjmciaa

/-- one bit falls out -/
def stepC (n : Nat) : Nat := if n % 2 = 1 then n / 2 ^^^ 3988292384 else n / 2
def steps : Nat → Nat → Nat
  | 0, n => n
  | k + 1, n => steps k (stepC n)
def byteC (n : Nat) (b : UInt8) : Nat := steps 8 (n ^^^ b.toNat)
def crcC (n : Nat) (l : List UInt8) : Nat := l.foldl byteC n
def onesC : Nat := 4294967295
def sumC (l : List UInt8) : Nat := crcC onesC l ^^^ onesC
def leC (n : Nat) : List UInt8 := [UInt8.ofNat (n % 256), UInt8.ofNat (n / 256 % 256), UInt8.ofNat (n / 65536 % 256), UInt8.ofNat (n / 16777216 % 256)]
def sealC (l : List UInt8) : List UInt8 := l ++ leC (sumC l)
def openC (s : List UInt8) : List UInt8 × Int := if s.length < 4 then ([], 1) else if sealC (s.take (s.length - 4)) = s then (s.take (s.length - 4), 0) else ([], 13)

theorem step_lt {n : Nat} (h : n < 2 ^ 32) : stepC n < 2 ^ 32 := by
  unfold stepC
  split
  · exact Nat.xor_lt_two_pow (by omega) (by decide)
  · omega
theorem steps_lt : ∀ (k : Nat) {n : Nat}, n < 2 ^ 32 → steps k n < 2 ^ 32
  | 0, _, h => h
  | k + 1, _, h => steps_lt k (step_lt h)
theorem byte_lt8 (b : UInt8) : b.toNat < 2 ^ 8 := b.toNat_lt
theorem byteC_lt {n : Nat} (h : n < 2 ^ 32) (b : UInt8) : byteC n b < 2 ^ 32 := steps_lt 8 (Nat.xor_lt_two_pow h (by have := byte_lt8 b; omega))
theorem crcC_lt : ∀ (l : List UInt8) {n : Nat}, n < 2 ^ 32 → crcC n l < 2 ^ 32
  | [], _, h => h
  | b :: r, _, h => crcC_lt r (byteC_lt h b)
theorem sumC_lt (l : List UInt8) : sumC l < 2 ^ 32 := Nat.xor_lt_two_pow (crcC_lt l (by decide)) (by decide)
theorem xor_half (a b : Nat) : (a ^^^ b) / 2 = a / 2 ^^^ b / 2 := by
  apply Nat.eq_of_testBit_eq
  intro i
  rw [Nat.testBit_xor, Nat.testBit_div_two, Nat.testBit_div_two, Nat.testBit_div_two, Nat.testBit_xor]
theorem xor_odd (a b : Nat) : (a ^^^ b) % 2 = (a + b) % 2 := by
  have h := Nat.testBit_xor (x := a) (y := b) (i := 0)
  rw [Nat.testBit_zero, Nat.testBit_zero, Nat.testBit_zero] at h
  have h1 := Nat.mod_two_eq_zero_or_one (a ^^^ b)
  have h2 := Nat.mod_two_eq_zero_or_one a
  have h3 := Nat.mod_two_eq_zero_or_one b
  rcases h1 with h1 | h1 <;> rcases h2 with h2 | h2 <;> rcases h3 with h3 | h3 <;> simp [h1, h2, h3] at h <;> omega
theorem step_xor (a b : Nat) : stepC (a ^^^ b) = stepC a ^^^ stepC b := by
  unfold stepC
  rw [xor_half, xor_odd]
  have h2 := Nat.mod_two_eq_zero_or_one a
  have h3 := Nat.mod_two_eq_zero_or_one b
  rcases h2 with h2 | h2 <;> rcases h3 with h3 | h3
  · rw [if_neg (by omega), if_neg (by omega), if_neg (by omega)]
  · rw [if_pos (by omega), if_neg (by omega), if_pos (by omega), Nat.xor_assoc]
  · rw [if_pos (by omega), if_pos (by omega), if_neg (by omega), Nat.xor_assoc, Nat.xor_assoc, Nat.xor_comm (b / 2)]
  · rw [if_neg (by omega), if_pos (by omega), if_pos (by omega)]
    rw [Nat.xor_assoc, ← Nat.xor_assoc 3988292384, Nat.xor_comm 3988292384 (b / 2), Nat.xor_assoc (b / 2), Nat.xor_self, Nat.xor_zero]
theorem step_zero : stepC 0 = 0 := rfl
theorem step_none {z : Nat} (h : z < 2 ^ 32) (hz : stepC z = 0) : z = 0 := by
  unfold stepC at hz
  split at hz
  · have h1 : z / 2 = 3988292384 := by
      have h2 : (z / 2 ^^^ 3988292384) ^^^ 3988292384 = 0 ^^^ 3988292384 := by rw [hz]
      rwa [Nat.xor_assoc, Nat.xor_self, Nat.xor_zero, Nat.zero_xor] at h2
    omega
  · omega
theorem steps_xor : ∀ (k a b : Nat), steps k (a ^^^ b) = steps k a ^^^ steps k b
  | 0, _, _ => rfl
  | k + 1, a, b => by show steps k (stepC (a ^^^ b)) = _; rw [step_xor, steps_xor k]; rfl
theorem steps_zero : ∀ k, steps k 0 = 0
  | 0 => rfl
  | k + 1 => steps_zero k
theorem steps_none : ∀ (k : Nat) {z : Nat}, z < 2 ^ 32 → steps k z = 0 → z = 0
  | 0, _, _, h => h
  | k + 1, _, hl, h => step_none hl (steps_none k (step_lt hl) h)
theorem xor_none {a b : Nat} (h : a ^^^ b = 0) : a = b := by
  have h2 : (a ^^^ b) ^^^ b = 0 ^^^ b := by rw [h]
  rwa [Nat.xor_assoc, Nat.xor_self, Nat.xor_zero, Nat.zero_xor] at h2
theorem steps_inj (k : Nat) {a b : Nat} (ha : a < 2 ^ 32) (hb : b < 2 ^ 32) (h : steps k a = steps k b) : a = b :=
  xor_none (steps_none k (Nat.xor_lt_two_pow ha hb) (by rw [steps_xor, h, Nat.xor_self]))
theorem steps_add : ∀ (j k n : Nat), steps (j + k) n = steps k (steps j n)
  | 0, k, n => by rw [Nat.zero_add]; rfl
  | j + 1, k, n => by rw [show j + 1 + k = (j + k) + 1 by omega]; exact steps_add j k (stepC n)
theorem step_double (y : Nat) : stepC (2 * y) = y := by unfold stepC; rw [if_neg (by omega)]; omega
theorem steps_shift (y : Nat) : steps 8 (256 * y) = y := by
  show stepC (stepC (stepC (stepC (stepC (stepC (stepC (stepC (256 * y)))))))) = y
  rw [show 256 * y = 2 * (2 * (2 * (2 * (2 * (2 * (2 * (2 * y))))))) by omega]
  simp only [step_double]
/-- bytes behind one another -/
theorem steps_byte (x y : Nat) : steps 8 x ^^^ y = steps 8 (x ^^^ 256 * y) := by rw [steps_xor, steps_shift]
theorem shift_xor (a b : Nat) : 256 * (a ^^^ b) = 256 * a ^^^ 256 * b := by
  have h : ∀ n, 256 * n = n <<< 8 := fun n => by rw [Nat.shiftLeft_eq]; omega
  rw [h, h, h, Nat.shiftLeft_xor_distrib]
/-- bytes as a word, the lowest first -/
def wordL : List UInt8 → Nat
  | [] => 0
  | b :: r => b.toNat ^^^ 256 * wordL r
theorem crc_word : ∀ (l : List UInt8) (n : Nat), crcC n l = steps (8 * l.length) (n ^^^ wordL l)
  | [], n => by show n = n ^^^ 0; rw [Nat.xor_zero]
  | b :: r, n => by
    show crcC (steps 8 (n ^^^ b.toNat)) r = _
    rw [crc_word r, steps_byte, ← steps_add, Nat.xor_assoc, List.length_cons, show 8 + 8 * r.length = 8 * (r.length + 1) by omega]
    rfl
theorem steps_shifts : ∀ (k y : Nat), steps (8 * k) (256 ^ k * y) = y
  | 0, y => by show 256 ^ 0 * y = y; omega
  | k + 1, y => by rw [show 8 * (k + 1) = 8 + 8 * k by omega, steps_add, show 256 ^ (k + 1) * y = 256 * (256 ^ k * y) by rw [Nat.pow_succ]; ac_rfl, steps_shift, steps_shifts k y]
def zerosL (k : Nat) : List UInt8 := List.replicate k 0
theorem word_zeros : ∀ k, wordL (zerosL k) = 0
  | 0 => rfl
  | k + 1 => by show (0 : UInt8).toNat ^^^ 256 * wordL (zerosL k) = 0; rw [word_zeros k]; rfl
theorem word_behind : ∀ (l : List UInt8) (k : Nat), wordL (l ++ zerosL k) = wordL l
  | [], k => word_zeros k
  | b :: r, k => by show b.toNat ^^^ 256 * wordL (r ++ zerosL k) = _; rw [word_behind r k]; rfl
theorem word_ahead (l : List UInt8) : ∀ k, wordL (zerosL k ++ l) = 256 ^ k * wordL l
  | 0 => by show wordL l = 256 ^ 0 * wordL l; omega
  | k + 1 => by
    show (0 : UInt8).toNat ^^^ 256 * wordL (zerosL k ++ l) = _
    rw [word_ahead l k, show (0 : UInt8).toNat = 0 from rfl, Nat.zero_xor, Nat.pow_succ]; ac_rfl
theorem word_lt : ∀ l : List UInt8, wordL l < 2 ^ (8 * l.length)
  | [] => by decide
  | b :: r => by
    have h := word_lt r
    have hb := byte_lt8 b
    have e : 2 ^ (8 * (b :: r).length) = 256 * 2 ^ (8 * r.length) := by rw [List.length_cons, show 8 * (r.length + 1) = 8 + 8 * r.length by omega, Nat.pow_add]
    have hp : 0 < 2 ^ (8 * r.length) := Nat.two_pow_pos _
    refine Nat.xor_lt_two_pow ?_ ?_ <;> rw [e] <;> omega
theorem low_xor {a y : Nat} (h : a < 256) : a ^^^ 256 * y = 256 * y + a := by
  have h1 : (a ^^^ 256 * y) % 2 ^ 8 = a := by rw [Nat.xor_mod_two_pow, show 256 * y % 2 ^ 8 = 0 by omega, Nat.xor_zero]; omega
  have h2 : (a ^^^ 256 * y) / 2 ^ 8 = y := by rw [Nat.xor_div_two_pow, show a / 2 ^ 8 = 0 by omega, Nat.zero_xor]; omega
  omega
theorem word_cons (b : UInt8) (r : List UInt8) : wordL (b :: r) = 256 * wordL r + b.toNat := low_xor (byte_lt8 b)
theorem word_none : ∀ l : List UInt8, wordL l = 0 → l = zerosL l.length
  | [], _ => rfl
  | b :: r, h => by
    rw [word_cons] at h
    have hb : b = 0 := by apply UInt8.toNat_inj.1; show b.toNat = 0; omega
    rw [List.length_cons]
    show b :: r = 0 :: zerosL r.length
    rw [← word_none r (by omega), hb]
theorem word_inj : ∀ (l m : List UInt8), l.length = m.length → wordL l = wordL m → l = m
  | [], [], _, _ => rfl
  | b :: r, c :: t, hl, h => by
    rw [word_cons, word_cons] at h
    have h1 := byte_lt8 b
    have h2 := byte_lt8 c
    have hb : b = c := UInt8.toNat_inj.1 (by omega)
    rw [hb, word_inj r t (by simpa using hl) (by omega)]
theorem word_le {n : Nat} (h : n < 2 ^ 32) : wordL (leC n) = n := by
  unfold leC
  rw [word_cons, word_cons, word_cons, word_cons]
  show 256 * (256 * (256 * (256 * 0 + _) + _) + _) + _ = n
  have e : ∀ x, x < 256 → (UInt8.ofNat x).toNat = x := fun x hx => by rw [UInt8.toNat_ofNat']; omega
  rw [e _ (by omega), e _ (by omega), e _ (by omega), e _ (by omega)]
  omega
theorem le_len (n : Nat) : (leC n).length = 4 := rfl
theorem seal_len (l : List UInt8) : (sealC l).length = l.length + 4 := by unfold sealC; rw [List.length_append, le_len]
theorem crc_app (n : Nat) (l m : List UInt8) : crcC n (l ++ m) = crcC (crcC n l) m := by unfold crcC; rw [List.foldl_append]
/-- what a text with its sum behind it always comes to -/
theorem seal_iff {t x : List UInt8} (hx : x.length = 4) : crcC onesC (t ++ x) = steps 32 onesC ↔ x = leC (sumC t) := by
  have hr : crcC onesC t < 2 ^ 32 := crcC_lt t (by decide)
  have hw : wordL x < 2 ^ 32 := by have := word_lt x; rwa [hx] at this
  rw [crc_app, crc_word x, hx]
  constructor
  · intro h
    have h1 := steps_inj 32 (Nat.xor_lt_two_pow hr hw) (by decide) h
    have h2 : wordL x = sumC t := by
      unfold sumC
      generalize crcC onesC t = R at h1 ⊢
      rw [← h1, ← Nat.xor_assoc, Nat.xor_self, Nat.zero_xor]
    exact word_inj _ _ (by rw [hx]; rfl) (by rw [h2, word_le (sumC_lt t)])
  · intro h
    rw [h, word_le (sumC_lt t)]
    unfold sumC
    rw [← Nat.xor_assoc, Nat.xor_self, Nat.zero_xor]
theorem open_seal (t : List UInt8) : openC (sealC t) = (t, 0) := by
  unfold openC
  have h : (sealC t).take ((sealC t).length - 4) = t := by rw [seal_len, Nat.add_sub_cancel]; unfold sealC; rw [List.take_left']; rfl
  rw [if_neg (by rw [seal_len]; omega), h, if_pos rfl]
theorem open_no {s : List UInt8} (hl : 4 ≤ s.length) (h : crcC onesC s ≠ steps 32 onesC) : openC s = ([], 13) := by
  unfold openC
  rw [if_neg (by omega), if_neg]
  intro he
  have hs : s = s.take (s.length - 4) ++ s.drop (s.length - 4) := (List.take_append_drop _ _).symm
  refine h ?_
  rw [hs]
  refine (seal_iff (by rw [List.length_drop]; omega)).2 ?_
  have h2 : s.take (s.length - 4) ++ leC (sumC (s.take (s.length - 4))) = s.take (s.length - 4) ++ s.drop (s.length - 4) := he.trans hs
  exact (List.append_cancel_left h2).symm
def xorL (l m : List UInt8) : List UInt8 := List.zipWith (fun a b => a ^^^ b) l m
theorem xorL_len {l m : List UInt8} (h : l.length = m.length) : (xorL l m).length = l.length := by unfold xorL; rw [List.length_zipWith, h, Nat.min_self]
theorem word_xor : ∀ (l m : List UInt8), l.length = m.length → wordL (xorL l m) = wordL l ^^^ wordL m
  | [], [], _ => rfl
  | b :: r, c :: t, h => by
    show (b ^^^ c).toNat ^^^ 256 * wordL (xorL r t) = _ ^^^ (c.toNat ^^^ 256 * wordL t)
    rw [word_xor r t (by simpa using h), UInt8.toNat_xor, shift_xor]
    show _ = (b.toNat ^^^ 256 * wordL r) ^^^ _
    ac_rfl
/-- bits that are turned, within four bytes, are told -/
theorem turned_told (s m : List UInt8) (k j : Nat) (hm : m.length = 4) (hl : k + 4 + j = (sealC s).length) (hz : m ≠ zerosL 4) : openC (xorL (sealC s) (zerosL k ++ m ++ zerosL j)) = ([], 13) := by
  have hlen : (sealC s).length = (zerosL k ++ m ++ zerosL j).length := by rw [List.length_append, List.length_append, hm]; unfold zerosL; rw [List.length_replicate, List.length_replicate]; exact hl.symm
  refine open_no (by rw [xorL_len hlen, seal_len]; omega) ?_
  rw [crc_word, xorL_len hlen, word_xor _ _ hlen, ← Nat.xor_assoc, steps_xor, ← crc_word]
  rw [show crcC onesC (sealC s) = steps 32 onesC from (seal_iff (le_len _)).2 rfl]
  intro h
  have h1 : steps (8 * (sealC s).length) (wordL (zerosL k ++ m ++ zerosL j)) = 0 := by
    have h2 : steps 32 onesC ^^^ (steps 32 onesC ^^^ steps (8 * (sealC s).length) (wordL (zerosL k ++ m ++ zerosL j))) = steps 32 onesC ^^^ steps 32 onesC := by rw [h]
    rwa [← Nat.xor_assoc, Nat.xor_self, Nat.zero_xor] at h2
  rw [word_behind, word_ahead, ← hl, show 8 * (k + 4 + j) = 8 * k + 8 * (4 + j) by omega, steps_add, steps_shifts] at h1
  have hw : wordL m < 2 ^ 32 := by have := word_lt m; rwa [hm] at this
  have h3 := word_none m (steps_none _ hw h1)
  rw [hm] at h3
  exact hz h3
theorem sum_xor {a b c : List UInt8} (h1 : a.length = b.length) (h2 : a.length = c.length) : sumC a ^^^ sumC b ^^^ sumC c = sumC (xorL (xorL a b) c) := by
  unfold sumC
  rw [crc_word, crc_word b, crc_word c, crc_word (xorL _ _), xorL_len (by rw [xorL_len h1]; exact h2), xorL_len h1, word_xor _ _ (by rw [xorL_len h1]; exact h2), word_xor _ _ h1, ← h1, ← h2]
  rw [steps_xor, steps_xor _ onesC (wordL b), steps_xor _ onesC (wordL c), steps_xor _ onesC (wordL a ^^^ wordL b ^^^ wordL c), steps_xor _ (wordL a ^^^ wordL b), steps_xor _ (wordL a)]
  generalize steps _ onesC = x
  generalize steps _ (wordL a) = p
  generalize steps _ (wordL b) = q
  generalize steps _ (wordL c) = r
  generalize onesC = f
  have e : ∀ u v : Nat, u ^^^ (u ^^^ v) = v := fun u v => by rw [← Nat.xor_assoc, Nat.xor_self, Nat.zero_xor]
  have h : x ^^^ p ^^^ f ^^^ (x ^^^ q ^^^ f) ^^^ (x ^^^ r ^^^ f) = (f ^^^ (f ^^^ (x ^^^ (x ^^^ (x ^^^ (p ^^^ q ^^^ r) ^^^ f))))) := by ac_rfl
  rw [h, e, e]
/-- by a table of what a byte comes to -/
theorem byte_table (n : Nat) (b : UInt8) : byteC n b = n / 256 ^^^ steps 8 ((n ^^^ b.toNat) % 256) := by
  unfold byteC
  have hb := byte_lt8 b
  have h0 : (n ^^^ b.toNat) / 256 = n / 256 := by
    rw [show (256 : Nat) = 2 ^ 8 from rfl, Nat.xor_div_two_pow, show b.toNat / 2 ^ 8 = 0 by omega, Nat.xor_zero]
  have h1 : n ^^^ b.toNat = (n ^^^ b.toNat) % 256 ^^^ 256 * (n / 256) := by rw [low_xor (by omega), ← h0]; omega
  rw [h1, steps_xor, steps_shift, ← h1, Nat.xor_comm]
end Go.Proofs.Ytlblkakjbjmciaa
