/- Decimal digits: the digits of a number spell it, and only they do so without a leading nought; what is told is read again. No program is named here. -/
import Derived.Lib.AtoiTie
import Derived.Lib.ItoaLen
import Derived.Lib.ParseIntBTie
import Derived.Lib.IndexAny
import Derived.Lib.Strings
namespace Go.Proofs.Ytmpelnbhlhifeaa
open Go.Lib

def isD (c : UInt8) : Bool := decide (48 ≤ c.toNat ∧ c.toNat ≤ 57)
def digv (c : UInt8) : Nat := c.toNat - 48

theorem isD_iff {c : UInt8} : isD c = true ↔ 48 ≤ c.toNat ∧ c.toNat ≤ 57 := decide_eq_true_iff

/-- the number that digits spell behind acc -/
def valD (acc : Nat) (l : List UInt8) : Nat := l.foldl (fun a c => 10 * a + digv c) acc

theorem valD_nil (acc : Nat) : valD acc [] = acc := rfl
theorem valD_cons (acc : Nat) (c : UInt8) (r : List UInt8) : valD acc (c :: r) = valD (10 * acc + digv c) r := by unfold valD; rw [List.foldl_cons]
theorem valD_append (l : List UInt8) (acc : Nat) (m : List UInt8) : valD acc (l ++ m) = valD (valD acc l) m := List.foldl_append

theorem digit_ofNat {d : Nat} (h : d < 10) : (UInt8.ofNat (48 + d)).toNat = 48 + d := by
  rw [UInt8.toNat_ofNat']
  exact Nat.mod_eq_of_lt (by show 48 + d < 256; omega)

theorem dec_small {u : Nat} (h : u < 10) : decDigits u = [UInt8.ofNat (48 + u)] := by rw [decDigits, dif_pos h]
theorem dec_big {u : Nat} (h : ¬ u < 10) : decDigits u = decDigits (u / 10) ++ [UInt8.ofNat (48 + u % 10)] := by rw [decDigits, dif_neg h]

theorem isD_ofNat {d : Nat} (h : d < 10) : isD (UInt8.ofNat (48 + d)) = true := by
  rw [isD_iff, digit_ofNat h]
  exact ⟨Nat.le_add_right _ _, by omega⟩

theorem digv_ofNat {d : Nat} (h : d < 10) : digv (UInt8.ofNat (48 + d)) = d := by
  unfold digv; rw [digit_ofNat h]; omega

theorem dec_all (u : Nat) : ∀ c ∈ decDigits u, isD c = true := by
  induction u using Nat.strongRecOn with
  | _ u ih =>
    intro c hc
    by_cases h : u < 10
    · rw [dec_small h, List.mem_singleton] at hc
      subst hc
      exact isD_ofNat h
    · rw [dec_big h] at hc
      rcases List.mem_append.1 hc with h' | h'
      · exact ih (u / 10) (by omega) c h'
      · rw [List.mem_singleton] at h'
        subst h'
        exact isD_ofNat (by omega)

theorem valD_dec (u : Nat) : valD 0 (decDigits u) = u := by
  induction u using Nat.strongRecOn with
  | _ u ih =>
    by_cases h : u < 10
    · rw [dec_small h]
      rw [valD_cons, valD_nil, digv_ofNat h]; omega
    · rw [dec_big h, valD_append, ih (u / 10) (by omega)]
      rw [valD_cons, valD_nil, digv_ofNat (show u % 10 < 10 by omega)]; omega

theorem dec_ne (u : Nat) : decDigits u ≠ [] := by
  by_cases h : u < 10
  · rw [dec_small h]; simp
  · rw [dec_big h]; simp

theorem head_append {l m : List UInt8} (h : l ≠ []) : (l ++ m).head? = l.head? := by
  cases l with
  | nil => exact absurd rfl h
  | cons a r => rfl

theorem dec_head (u : Nat) (h0 : u ≠ 0) : (decDigits u).head? ≠ some 48 := by
  induction u using Nat.strongRecOn with
  | _ u ih =>
    by_cases h : u < 10
    · rw [dec_small h, List.head?_cons]
      intro e
      injection e with e
      have := congrArg UInt8.toNat e
      rw [digit_ofNat h] at this
      have h48 : (48 : UInt8).toNat = 48 := rfl
      omega
    · rw [dec_big h, head_append (dec_ne _)]
      exact ih (u / 10) (by omega) (by omega)

theorem dec_zero : decDigits 0 = [48] := by rw [dec_small (by decide)]; rfl

theorem dec_unique : ∀ (n : Nat) (ds : List UInt8), ds.length = n → (∀ c ∈ ds, isD c = true) → ds ≠ [] → (ds.head? = some 48 → ds.length = 1) → decDigits (valD 0 ds) = ds := by
  intro n
  induction n with
  | zero => intro ds hl _ hne; exact absurd (List.length_eq_zero_iff.1 hl) hne
  | succ n ih =>
    intro ds hl hall hne hh
    obtain ⟨init, c, rfl⟩ : ∃ init c, ds = init ++ [c] := ⟨ds.dropLast, ds.getLast hne, (List.dropLast_concat_getLast hne).symm⟩
    have hc := isD_iff.1 (hall c (by simp))
    have hcd : UInt8.ofNat (48 + digv c) = c := by
      apply UInt8.toNat_inj.1
      rw [digit_ofNat (by unfold digv; omega)]; unfold digv; omega
    by_cases hi : init = []
    · subst hi
      rw [List.nil_append, valD_cons, valD_nil]
      rw [dec_small (by unfold digv; omega)]
      simp only [Nat.mul_zero, Nat.zero_add]
      rw [hcd]
    · have hl' : init.length = n := by simpa using hl
      have hlen : 0 < init.length := List.length_pos_iff.2 hi
      have hhead : init.head? ≠ some 48 := by
        intro e
        have := hh (by rw [head_append hi]; exact e)
        simp at this; exact hi this
      have h1 := ih init hl' (fun x hx => hall x (by simp [hx])) hi (fun e => absurd e hhead)
      rw [valD_append, valD_cons, valD_nil]
      have hv0 : valD 0 init ≠ 0 := by
        intro e
        rw [e, dec_zero] at h1
        apply hhead; rw [← h1]; rfl
      rw [dec_big (by omega)]
      have e1 : (10 * valD 0 init + digv c) / 10 = valD 0 init := by unfold digv; omega
      have e2 : (10 * valD 0 init + digv c) % 10 = digv c := by unfold digv; omega
      rw [e1, e2, h1, hcd]

theorem decFrom_all : ∀ (l : List UInt8) (acc : Nat), (∀ c ∈ l, isD c = true) → decFrom acc l = some (valD acc l)
  | [], _, _ => rfl
  | c :: r, acc, h => by
    have hc := isD_iff.1 (h c (by simp))
    simp only [decFrom, digitVal, if_pos hc]
    rw [valD_cons, Nat.mul_comm acc 10]
    exact decFrom_all r _ (fun x hx => h x (by simp [hx]))

theorem decNat_dec (u : Nat) : decNat (decDigits u) = some u := by
  unfold decNat
  rw [if_neg (by simpa using dec_ne u), decFrom_all _ _ (dec_all u), valD_dec]

theorem itoa_len (a : Int) (h : a.natAbs ≤ 1048576) : (itoa a).length ≤ 9 := by
  unfold itoa
  have : ∀ u : Nat, u ≤ 1048576 → (decDigits u).length ≤ 8 := fun u hu => by
    rw [decDigits_length]
    by_cases h1 : u < 10
    · rw [nDigits_small h1]; omega
    have aux : ∀ k v, v < 10 ^ (k + 1) → nDigits v ≤ k + 1 := by
      intro k
      induction k with
      | zero => intro v hv; rw [nDigits_small (by simpa using hv)]; exact Nat.le_refl _
      | succ k ih =>
        intro v hv
        by_cases h2 : v < 10
        · rw [nDigits_small h2]; omega
        · rw [nDigits_big h2]
          have := ih (v / 10) (by rw [Nat.div_lt_iff_lt_mul (by decide)]; rw [Nat.pow_succ] at hv; exact hv)
          omega
    exact aux 7 u (by omega)
  split
  · have := this a.natAbs h; simp; omega
  · have := this a.toNat (by omega); omega

theorem dec_head_digit (u : Nat) : ∃ c r, decDigits u = c :: r ∧ isD c = true := by
  cases h : decDigits u with
  | nil => exact absurd h (dec_ne u)
  | cons c r => exact ⟨c, r, rfl, dec_all u c (by rw [h]; simp)⟩

/-- what is told is read again -/
theorem atoiAll_itoa (a : Int) (h : a.natAbs ≤ 1048576) : atoiAll (itoa a) = .ok a := by
  rw [atoiAll_short _ (by have := itoa_len a h; omega)]
  unfold itoa
  split
  · simp only [atoi]
    rw [if_pos (by decide), decNat_dec]
    simp only [Option.map_some, NumEnd.ofOption]
    congr 1; omega
  · obtain ⟨c, r, e, hc⟩ := dec_head_digit a.toNat
    have hc' := isD_iff.1 hc
    have h45 : (c == 45) = false := beq_eq_false_iff_ne.2 (fun e => by rw [e] at hc'; revert hc'; decide)
    have h43 : (c == 43) = false := beq_eq_false_iff_ne.2 (fun e => by rw [e] at hc'; revert hc'; decide)
    rw [e]
    simp only [atoi, h45, h43]
    rw [← e, decNat_dec]
    simp only [Option.map_some, NumEnd.ofOption, Bool.false_eq_true, if_false]
    congr 1; omega

theorem atoiAll_plus_itoa (a : Int) (h : a.natAbs ≤ 1048576) (h0 : 0 ≤ a) : atoiAll (43 :: itoa a) = .ok a := by
  rw [atoiAll_short _ (by have := itoa_len a h; simp; omega)]
  unfold itoa
  rw [if_neg (by omega)]
  simp only [atoi]
  rw [if_neg (by decide), if_pos (by decide), decNat_dec]
  simp only [Option.map_some, NumEnd.ofOption]
  congr 1; omega
end Go.Proofs.Ytmpelnbhlhifeaa
