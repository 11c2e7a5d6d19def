/- Own texts, joined: Fl, Vb, F9, Ev, A1. -/
import Derived.Test.YtdooeonilbpfgaaGreatDoorR2
import Derived.Test.YtdooeonilbpfgaaGreatDoorR3
import Derived.Test.YtdooeonilbpfgaaGreatDoorR10
import Derived.Test.YtdooeonilbpfgaaGreatDoorR11
import Derived.WalkLawsBesides
import Derived.KernelRfl
import Derived.Lib.SplitLaws
import Derived.Lib.Split
import Derived.Lib.IndexBytes
import Derived.Lib.Join
namespace Go.Proofs.YtdooeonilbpfgaaGreatDoor
open Ieee
theorem log2_bd (m : Nat) (h0 : m ≠ 0) (h : m < 2 ^ 53) : m.log2 ≤ 52 := by
 have := Nat.log2_lt h0 |>.2 h; omega
theorem cut_zero (s : Bool) (n : Nat) : Toward.even.cut s n 0 = n := by
 simp [Toward.cut, Nat.mod_one]
theorem read_word (s : Bool) (L K : Nat) (hl : L ≤ 52) (h1 : 4503599627370496 ≤ K) (h2 : K < 9007199254740992) :
  double.read (double.word s ((L + 1022) * 4503599627370496 + K)) = .number s K ((L : Int) - 52) := by
 have hlp : double.leastPlace = -1074 := by kernel_rfl
 have hbi : double.binade = 4503599627370496 := by kernel_rfl
 have hsw : double.signWeight = 9223372036854775808 := by kernel_rfl
 have hir : double.infRung = 9218868437227405312 := by kernel_rfl
 obtain ⟨R, hR⟩ : ∃ R, R = (L + 1022) * 4503599627370496 + K := ⟨_, rfl⟩
 rw [← hR]
 have e6 : double.word s R % double.signWeight = R := by
  unfold Format.word; rw [hsw]; split <;> omega
 have e7 : (double.word s R / double.signWeight % 2 == 1) = s := by
  unfold Format.word; rw [hsw]
  cases s
  ·rw [if_neg (by decide)]; exact beq_eq_false_iff_ne.2 (by omega)
  ·rw [if_pos rfl]; exact beq_iff_eq.2 (by omega)
 unfold Format.read
 simp only [e6, e7]
 rw [if_neg (by rw [hbi]; omega), if_pos (by rw [hir]; omega), hbi, hlp]
 have e8 : 4503599627370496 + R % 4503599627370496 = K := by omega
 have e9 : R / 4503599627370496 - 1 = L + 1022 := by omega
 rw [e8, e9, show (-1074 : Int) + ((L + 1022 : Nat) : Int) = (L : Int) - 52 by omega]
theorem nearest_int (s : Bool) (m : Nat) (h0 : m ≠ 0) (h : m < 2 ^ 53) :
  double.nearest s m 0 = double.word s ((m.log2 + 1022) * 4503599627370496 + m <<< (52 - m.log2)) ∧ m.log2 ≤ 52 ∧ 4503599627370496 ≤ m <<< (52 - m.log2) ∧ m <<< (52 - m.log2) < 9007199254740992 := by
 have hl := log2_bd m h0 h
 have hlo : 2 ^ m.log2 ≤ m := Nat.log2_self_le h0
 have hhi : m < 2 ^ (m.log2 + 1) := Nat.lt_log2_self
 have hlp : double.leastPlace = -1074 := by kernel_rfl
 have hbi : double.binade = 4503599627370496 := by kernel_rfl
 have hir : double.infRung = 9218868437227405312 := by kernel_rfl
 have hfb : double.fractionBits = 52 := rfl
 unfold Format.nearest
 rw [if_neg h0]
 simp only [hlp, hfb, hbi, hir]
 generalize m.log2 = L at *
 have e1 : max ((0 : Int) + (L : Int) - ((52 : Nat) : Int)) (-1074) = (L : Int) - 52 := by omega
 have e2 : ((0 : Int) - ((L : Int) - 52)).toNat = 52 - L := by omega
 have e3 : ((L : Int) - 52 - 0).toNat = 0 := by omega
 have e4 : ((L : Int) - 52 - -1074).toNat = L + 1022 := by omega
 rw [e1, e2, e3, e4, cut_zero]
 have hk1 : 4503599627370496 ≤ m <<< (52 - L) := by
  rw [Nat.shiftLeft_eq]
  have hh : (4503599627370496 : Nat) = 2 ^ L * 2 ^ (52 - L) := by
   rw [← Nat.pow_add, show L + (52 - L) = 52 by omega]
  rw [hh]
  exact Nat.mul_le_mul_right _ hlo
 have hk2 : m <<< (52 - L) < 9007199254740992 := by
  rw [Nat.shiftLeft_eq]
  have hh : (9007199254740992 : Nat) = 2 ^ (L + 1) * 2 ^ (52 - L) := by
   rw [← Nat.pow_add, show L + 1 + (52 - L) = 53 by omega]
  rw [hh]
  exact Nat.mul_lt_mul_of_pos_right hhi (Nat.two_pow_pos _)
 refine ⟨?_, hl, hk1, hk2⟩
 rw [Nat.min_eq_left (by omega)]
theorem read_int (s : Bool) (m : Nat) (h0 : m ≠ 0) (h : m < 2 ^ 53) :
  double.read (double.nearest s m 0) = .number s (m <<< (52 - m.log2)) ((m.log2 : Int) - 52) := by
 obtain ⟨e, hl, h1, h2⟩ := nearest_int s m h0 h
 rw [e, read_word s _ _ hl h1 h2]
theorem read_zero : double.read (double.nearest false 0 0) = .number false 0 (-1074) := by kernel_rfl
def Rep (x : Nat) (a : Int) : Prop := ∃ s m p, double.read x = .number s m p ∧ p ≤ 0 ∧ signed s m 0 = a * 2 ^ (-p).toNat
theorem signed_scale (s : Bool) (m k : Nat) : signed s m k = signed s m 0 * 2 ^ k := by
 cases s <;> simp [signed, Nat.shiftLeft_eq]
 rw [Int.neg_mul]
theorem rep_int (a : Int) (h : a.natAbs < 2 ^ 53) : Rep (floatOfInt .f64 a) a := by
 unfold floatOfInt FloatKind.nearest FloatKind.encode
 show Rep (double.nearest (decide (a < 0)) a.natAbs 0) a
 by_cases h0 : a.natAbs = 0
 ·have : a = 0 := by omega
  subst this
  exact ⟨false, 0, -1074, read_zero, by omega, by simp only [signed, Int.zero_mul]; rfl⟩
 ·have hl := log2_bd _ h0 h
  refine ⟨_, _, _, read_int _ _ h0 h, by omega, ?_⟩
  have e : (-(((a.natAbs).log2 : Int) - 52)).toNat = 52 - a.natAbs.log2 := by omega
  rw [e]
  generalize 52 - a.natAbs.log2 = k
  simp only [signed, Nat.shiftLeft_eq, Nat.pow_zero, Nat.mul_one]
  by_cases hn : a < 0
  ·simp only [hn, decide_true, if_true]
   rw [Int.natCast_mul, ← Int.neg_mul]
   rw [show -((a.natAbs : Nat) : Int) = a by omega, Int.natCast_pow]
   rfl
  ·simp only [hn, decide_false]
   rw [if_neg (by decide), Int.natCast_mul, show ((a.natAbs : Nat) : Int) = a by omega, Int.natCast_pow]
   rfl
theorem compare_scale (a b : Int) (k : Nat) : compare (a * 2 ^ k) (b * 2 ^ k) = compare a b := by
 have hp : (0 : Int) < 2 ^ k := Int.pow_pos (by decide)
 simp only [compare, compareOfLessAndEq]
 have h1 : (a * 2 ^ k < b * 2 ^ k) ↔ a < b := ⟨fun h => Int.lt_of_mul_lt_mul_right h (Int.le_of_lt hp), fun h => Int.mul_lt_mul_of_pos_right h hp⟩
 have h2 : (a * 2 ^ k = b * 2 ^ k) ↔ a = b := ⟨fun h => Int.eq_of_mul_eq_mul_right (by omega) h, fun h => by rw [h]⟩
 simp only [h1, h2]
theorem rep_order {x y : Nat} {a b : Int} (hx : Rep x a) (hy : Rep y b) : double.order x y = some (compare a b) := by
 obtain ⟨s, m, p, rx, hp2, hv⟩ := hx
 obtain ⟨t, n, q, ry, hq2, hw⟩ := hy
 simp only [Format.order, rx, ry, Datum.order]
 rw [signed_scale, signed_scale (s := t), hv, hw, Int.mul_assoc, Int.mul_assoc, ← Int.pow_add, ← Int.pow_add]
 have e : (-q).toNat + (q - min p q).toNat = (-p).toNat + (p - min p q).toNat := by omega
 rw [e, compare_scale]
theorem rep_toInt {x : Nat} {a : Int} (hx : Rep x a) : (double.read x).toInt .zero = some a := by
 obtain ⟨s, m, p, rx, hp2, hv⟩ := hx
 rw [rx]
 have e1 : p.toNat = 0 := by omega
 have hm : m = a.natAbs * 2 ^ (-p).toNat := by
  have := congrArg Int.natAbs hv
  rw [Int.natAbs_mul, Int.natAbs_pow] at this
  cases s <;> simpa [signed] using this
 have hcut : Toward.zero.cut s (m <<< 0) (-p).toNat = a.natAbs := by
  rw [Nat.shiftLeft_zero]
  by_cases h0 : a.natAbs = 0
  ·simp [Toward.cut, hm, h0]
  ·have hlog : (-p).toNat ≤ m.log2 := by
    rw [Nat.le_log2 (by rw [hm]; exact Nat.mul_ne_zero h0 (Nat.pos_iff_ne_zero.1 (Nat.two_pow_pos _)))]
    rw [hm]
    exact Nat.le_mul_of_pos_left _ (Nat.pos_of_ne_zero h0)
   simp only [Toward.cut]
   rw [Nat.min_eq_left (by omega), Nat.shiftLeft_eq, Nat.one_mul, hm, Nat.mul_div_cancel _ (Nat.two_pow_pos _)]
   rfl
 simp only [Datum.toInt, Datum.integral, e1, hcut]
 congr 1
 have hk : (0 : Int) < 2 ^ (-p).toNat := Int.pow_pos (by decide)
 generalize (2 : Int) ^ (-p).toNat = k at *
 cases s
 ·simp only [signed, if_neg (show ¬ (false = true) by decide)] at hv ⊢
  have : 0 ≤ a := by
   rcases Int.lt_or_le a 0 with h | h
   ·have := Int.mul_neg_of_neg_of_pos h hk
    rw [← hv] at this; omega
   ·exact h
  simp; omega
 ·simp only [signed, if_pos] at hv ⊢
  have : a ≤ 0 := by
   rcases Int.lt_or_le 0 a with h | h
   ·have := Int.mul_pos h hk
    rw [← hv] at this; omega
   ·exact h
  simp; omega
end Go.Proofs.YtdooeonilbpfgaaGreatDoor
namespace Go.Proofs.YtdooeonilbpfgaaGreatDoor
open Go.RowKit
@[go_sem] theorem run_store_complex (P : Program) (w : World) (a : Addr) (m : Mode) (k : FloatKind) (x y : Nat) : (store a (.complex k x y) m).run P w = stored P w a (.complex k x y) m := run_store P w a _ m rfl
end Go.Proofs.YtdooeonilbpfgaaGreatDoor
namespace Go.Proofs.YtdooeonilbpfgaaGreatDoor
open Go.RowKit
theorem inP_mono (x : List UInt8) {st a b : Int} (h : a ≤ b) : (inP x st a).length ≤ (inP x st b).length := by
 unfold inP
 by_cases h1 : st < a
 ·rw [if_pos h1, if_pos (by omega)]; exact Nat.le_refl _
 ·rw [if_neg h1]
  split
  ·simp; omega
  ·exact Nat.le_refl _
theorem txt_mono {t : T} {a b : Int} (h : a ≤ b) : (txt a t).length ≤ (txt b t).length := inP_mono _ h
theorem txt_top (t : T) (k : Int) : (txt k t).length ≤ (pcT t).1.length + 2 := inP_len _ _ _
theorem txt_own {t : T} {k : Int} (h : k ≤ (pcT t).2) : txt k t = (pcT t).1 := by unfold txt inP; rw [if_neg (by omega)]
def loK (k : Nat) (cmp : Bool) : Int := if k = 3 ∧ cmp = false then 4 else k
def Got (p : Nat) (cs : List CM) (k : Int) (r : Rs) : Prop := r.1 = true → ∃ t, OkT t ∧ r.2.2 = cs ++ post t ∧ (txt k t).length + p ≤ r.2.1
theorem opOf_tab {c d : UInt8} (h : (opOf c d).2.2 ≠ 0) : 11 ≤ (opOf c d).1 ∧ (opOf c d).1 ≤ 23 ∧ (tabAt ((opOf c d).1 - 11).toNat).2.1.length = (opOf c d).2.1 ∧ (tabAt ((opOf c d).1 - 11).toNat).2.2 = ((opOf c d).2.2 : Int) := by
 revert h
 unfold opOf
 repeat' split
 all_goals first | (intro h; exact absurd rfl h) | (intro _; decide)
theorem leaf_top {c : CM} (h : OkT (.leaf c)) : (pcT (.leaf c)).2 = 7 := by
 have h16 : 1 ≤ c.op ∧ c.op ≤ 6 := by
  have h1 := formed_op h.1
  have ho := h.2
  unfold operN at ho
  split at ho
  ·assumption
  ·split at ho <;> omega
 have hc : c.op = 1 ∨ c.op = 2 ∨ c.op = 3 ∨ c.op = 4 ∨ c.op = 5 ∨ c.op = 6 := by omega
 show (joinP c none0 none0).2 = 7
 unfold joinP
 rcases hc with e | e | e | e | e | e <;> simp [e]
section
variable {s : List UInt8} {p q : Nat} {cs : List CM}
theorem got_no {k : Int} : Got p cs k (false, q, cs) := by intro h; cases h
theorem got_leaf {c : CM} (hf : formedB c = true) (ho : operN c.op = 0) (hl : (joinP c none0 none0).1.length + p ≤ q) : Got p cs 6 (true, q, cs ++ [c]) := by
 intro _
 refine ⟨.leaf c, ⟨hf, ho⟩, rfl, ?_⟩
 rw [txt_own (by rw [leaf_top ⟨hf, ho⟩]; omega)]
 exact hl
theorem got_hold {inner : Rs} {o : Int} (ho : o = 9 ∨ o = 10) (hi : Got (p + 3) cs 1 inner) : Got p cs 6 (addD o (closeD s inner)) := by
 obtain ⟨b, q, cs'⟩ := inner
 cases b
 ·intro h; simp [addD, closeD] at h
 ·by_cases h41 : nx s q = 41
  ·have e : addD o (closeD s (true, q, cs')) = (true, q + 1, cs' ++ [opC o]) := by simp [addD, closeD, h41]
   rw [e]
   obtain ⟨t, h1, h2, h3⟩ := hi rfl
   simp only at h2 h3
   intro _
   have hs := strength h1
   rw [txt_own (by omega)] at h3
   refine ⟨.un o t, ⟨by omega, by omega, h1⟩, ?_, ?_⟩
   ·show cs' ++ [opC o] = cs ++ (post t ++ [opC o])
    rw [h2, List.append_assoc]
   ·rcases ho with rfl | rfl
    ·rw [txt_own (by show (6 : Int) ≤ 7; omega)]
     show ([114, 101, 40] ++ (pcT t).1 ++ [41]).length + p ≤ q + 1
     simp; omega
    ·rw [txt_own (by show (6 : Int) ≤ 7; omega)]
     show ([105, 109, 40] ++ (pcT t).1 ++ [41]).length + p ≤ q + 1
     simp; omega
  ·intro h; simp [addD, closeD, h41] at h
theorem got_sign {r : Rs} {o : Int} (ho : o = 7 ∨ o = 8) (hi : Got (p + 1) cs 6 r) : Got p cs 6 (addD o r) := by
 obtain ⟨b, q, cs'⟩ := r
 cases b
 ·intro h; simp [addD] at h
 ·have e : addD o (true, q, cs') = (true, q, cs' ++ [opC o]) := by simp [addD]
  rw [e]
  obtain ⟨t, h1, h2, h3⟩ := hi rfl
  simp only at h2 h3
  intro _
  refine ⟨.un o t, ⟨by omega, by omega, h1⟩, ?_, ?_⟩
  ·show cs' ++ [opC o] = cs ++ (post t ++ [opC o])
   rw [h2, List.append_assoc]
  ·rcases ho with rfl | rfl
   ·rw [txt_own (by show (6 : Int) ≤ 6; omega)]
    show ([45] ++ txt 6 t).length + p ≤ q
    simp; omega
   ·rw [txt_own (by show (6 : Int) ≤ 6; omega)]
    show ([33] ++ txt 6 t).length + p ≤ q
    simp; omega
theorem got_paren {r : Rs} (hi : Got (p + 1) cs 1 r) : Got p cs 6 (closeD s r) := by
 obtain ⟨b, q, cs'⟩ := r
 cases b
 ·intro h; simp [closeD] at h
 ·by_cases h41 : nx s q = 41
  ·have e : closeD s (true, q, cs') = (true, q + 1, cs') := by simp [closeD, h41]
   rw [e]
   obtain ⟨t, h1, h2, h3⟩ := hi rfl
   simp only at h2 h3
   intro _
   have hs := strength h1
   rw [txt_own (by omega)] at h3
   have h4 := txt_top t 6
   exact ⟨t, h1, h2, by simp only; omega⟩
  ·intro h; simp [closeD, h41] at h
theorem got_state : Got p cs 6 (stateD s p cs) := by
 unfold stateD
 split
 ·rename_i hn
  by_cases h41 : nx s (p + 3 + (wordP s (p + 3)).length) = 41
  ·have e : closeD s (true, p + 3 + (wordP s (p + 3)).length, cs ++ [⟨6, 0, wordP s (p + 3)⟩]) = (true, p + 3 + (wordP s (p + 3)).length + 1, cs ++ [⟨6, 0, wordP s (p + 3)⟩]) := by simp [closeD, h41]
   rw [e]
   refine got_leaf (by unfold formedB; simp [hn]) rfl ?_
   show ([105, 110, 40] ++ wordP s (p + 3) ++ [41]).length + p ≤ _
   simp; omega
  ·intro h; simp [closeD, h41] at h
 ·exact got_no
theorem got_word {inner : Rs} (hi : Got (p + 3) cs 1 inner) : Got p cs 6 (wordD s p cs (wordP s p) inner) := by
 unfold wordD
 split
 ·refine got_leaf (c := opC 3) (by decide) (by decide) ?_
  show 4 + p ≤ p + 4
  omega
 ·split
  ·refine got_leaf (c := opC 4) (by decide) (by decide) ?_
   show 5 + p ≤ p + 5
   omega
  ·split
   ·rename_i hn
    refine got_leaf (c := ⟨5, 0, wordP s p⟩) (by unfold formedB; simp [hn]) rfl ?_
    show (wordP s p).length + p ≤ p + (wordP s p).length
    omega
   ·split
    ·exact got_no
    ·split
     ·exact got_state
     ·split
      ·exact got_hold (Or.inl rfl) hi
      ·split
       ·exact got_hold (Or.inr rfl) hi
       ·exact got_no
theorem num_all : ∀ c ∈ numT s p, isD c = true := by
 intro c hc
 unfold numT at hc
 split at hc
 ·simp at hc; subst hc; decide
 ·exact List.all_eq_true.1 List.all_takeWhile c hc
theorem num_head (hp : p < s.length) (h : (numT s p).head? = some 48) : (numT s p).length = 1 := by
 unfold numT at h ⊢
 split at h
 ·rename_i e; rw [if_pos e]; rfl
 ·rename_i e
  rw [List.drop_eq_getElem_cons hp] at h
  rw [nx_at hp] at e
  rw [List.takeWhile_cons] at h
  split at h
  ·simp at h; exact absurd h e
  ·simp at h
theorem num_back (hp : p < s.length) (hd : isD (nx s p) = true) (h : (numP (numT s p)).2 = 0) : ∃ u : Nat, (numP (numT s p)).1 = u ∧ u ≤ 1099511627776 ∧ numT s p = Lib.decDigits u := by
 have hpos := num_pos hp hd
 have hne : numT s p ≠ [] := by intro e; rw [e] at hpos; simp at hpos
 have hdec := dec_unique _ (numT s p) rfl num_all hne (num_head hp)
 have h45 : (numT s p).head? ≠ some 45 := by
  intro e
  have := num_all (s := s) (p := p) 45 (List.mem_of_mem_head? e)
  exact absurd this (by decide)
 have hf0 : fOf (numT s p) = 0 := by unfold fOf; rw [if_neg h45]
 have hv : valN (numT s p) = valD 0 (numT s p) := by unfold valN; rw [hf0, List.drop_zero]
 unfold numP at h
 split at h
 ·split at h
  ·cases h
  ·rename_i hok hle
   exact ⟨valD 0 (numT s p), by rw [numP_pos hok hle h45, hv], by omega, hdec.symm⟩
 ·cases h
theorem got_num (hp : p < s.length) (hd : isD (nx s p) = true) : Got p cs 6 (numD s p cs) := by
 unfold numD
 split
 ·exact got_no
 ·rename_i h0
  obtain ⟨u, h1, h2, h3⟩ := num_back hp hd (Decidable.not_not.1 h0)
  have hit : Lib.itoa (u : Int) = numT s p := by rw [itoa_nat (by omega), h3]; rfl
  rw [h1]
  split
  ·split
   ·rename_i hle
    refine got_leaf (c := ⟨2, (u : Int), []⟩) (by unfold formedB; simp; omega) rfl ?_
    show (Lib.itoa (u : Int) ++ [105]).length + p ≤ _
    rw [hit]; simp; omega
   ·exact got_no
  ·refine got_leaf (c := ⟨1, (u : Int), []⟩) (by unfold formedB; simp; omega) rfl ?_
   show (Lib.itoa (u : Int)).length + p ≤ _
   rw [hit]; omega
end
theorem sound (s : List UInt8) : ∀ n : Nat, (∀ (k p : Nat) (cs : List CM), 1 ≤ k → k ≤ 6 → Got p cs k (D s n (.joins k) p cs)) ∧
  (∀ (k : Nat) (cmp : Bool) (p : Nat) (cs : List CM), 1 ≤ k → k ≤ 5 → ∀ (t0 : T) (cs0 : List CM) (p0 : Nat), OkT t0 → cs = cs0 ++ post t0 → (txt (loK k cmp) t0).length + p0 ≤ p → Got p0 cs0 k (D s n (.loop k cmp) p cs)) ∧
  (∀ (p : Nat) (cs : List CM), Got p cs 6 (D s n .ahead p cs)) := by
 intro n
 induction n with
 | zero =>
  refine ⟨?_, ?_, ?_⟩
  ·intro k p cs _ _; exact got_no
  ·intro k cmp p cs _ _ t0 cs0 p0 _ _ _ h; simp [D] at h
  ·intro p cs; exact got_no
 | succ n ih =>
  obtain ⟨ihj, ihl, iha⟩ := ih
  refine ⟨?_, ?_, ?_⟩
  ·intro k p cs h1 h6
   rw [D_joins]
   by_cases hk : k = 6
   ·rw [if_pos hk]; subst hk; exact iha p cs
   ·rw [if_neg hk]
    have hj := ihj (k + 1) p cs (by omega) (by omega)
    by_cases hr : (D s n (.joins (k + 1)) p cs).1 = true
    ·rw [if_pos hr]
     obtain ⟨t, g1, g2, g3⟩ := hj hr
     refine ihl k false _ _ h1 (by omega) t cs p g1 g2 ?_
     have : (txt (loK k false) t).length ≤ (txt ((k + 1 : Nat) : Int) t).length := txt_mono (by unfold loK; split <;> omega)
     omega
    ·rw [if_neg hr]; exact fun h => absurd h hr
  ·intro k cmp p cs h1 h5 t0 cs0 p0 ho hc hl
   rw [D_loop]
   by_cases hk : (opAt s p).2.2 ≠ k
   ·rw [if_pos hk]
    intro _
    have : (txt (k : Int) t0).length ≤ (txt (loK k cmp) t0).length := txt_mono (by unfold loK; split <;> omega)
    exact ⟨t0, ho, hc, by simp only; omega⟩
   ·rw [if_neg hk]
    by_cases hcm : cmp = true
    ·rw [if_pos hcm]; intro h; cases h
    ·rw [if_neg hcm]
     have hk' : (opAt s p).2.2 = k := Decidable.not_not.1 hk
     have hj := ihj (k + 1) (p + (opAt s p).2.1) cs (by omega) (by omega)
     by_cases hr : (D s n (.joins (k + 1)) (p + (opAt s p).2.1) cs).1 = true
     ·rw [if_pos hr]
      obtain ⟨t, g1, g2, g3⟩ := hj hr
      obtain ⟨o1, o2, o3, o4⟩ := opOf_tab (c := nx s p) (d := nx s (p + 1)) (by show (opAt s p).2.2 ≠ 0; omega)
      have o1 : 11 ≤ (opAt s p).1 := o1
      have o2 : (opAt s p).1 ≤ 23 := o2
      have o3 : (tabAt ((opAt s p).1 - 11).toNat).2.1.length = (opAt s p).2.1 := o3
      have o4 : (tabAt ((opAt s p).1 - 11).toNat).2.2 = ((opAt s p).2.2 : Int) := o4
      rw [hk'] at o4
      refine ihl k (k == 3) _ _ h1 h5 (.bin (opAt s p).1 t0 t) cs0 p0 ⟨o1, o2, ho, g1⟩ ?_ ?_
      ·rw [g2, hc]
       simp only [post, List.append_assoc]
      ·have e1 : loK k (k == 3) = k := by
        unfold loK
        by_cases h3 : k = 3
        ·subst h3; rfl
        ·rw [if_neg (fun h => h3 h.1)]
       have e0 : loK k cmp = if (k : Int) = 3 then 4 else k := by
        unfold loK
        cases cmp
        ·by_cases h3 : k = 3
         ·subst h3; rfl
         ·rw [if_neg (fun h => h3 h.1), if_neg (by omega)]
        ·exact absurd rfl hcm
       have e2 : pcT (.bin (opAt s p).1 t0 t) = (txt (loK k cmp) t0 ++ (tabAt ((opAt s p).1 - 11).toNat).2.1 ++ txt ((k + 1 : Nat) : Int) t, (k : Int)) := by
        show joinP (opC (opAt s p).1) (pcT t0) (pcT t) = _
        rw [joinP_bin o1, e0]
        unfold betP txt
        rw [o4]
        by_cases h3 : (k : Int) = 3
        ·rw [if_pos h3, if_pos h3]
         have hk3 : k = 3 := by omega
         subst hk3
         rfl
        ·rw [if_neg h3, if_neg h3]; rfl
       rw [e1, txt_own (by rw [e2]; exact Int.le_refl _), e2]
       simp only [List.length_append]
       omega
     ·rw [if_neg hr]; exact fun h => absurd h hr
  ·intro p cs
   rw [D_ahead]
   split
   ·exact got_sign (Or.inl rfl) (iha (p + 1) cs)
   ·split
    ·exact got_sign (Or.inr rfl) (iha (p + 1) cs)
    ·split
     ·exact got_paren (ihj 1 (p + 1) cs (by omega) (by omega))
     ·split
      ·rename_i hd
       exact got_num (nx_lt (by intro e; rw [e] at hd; exact absurd hd (by decide))) hd
      ·exact got_word (ihj 1 (p + 3) cs (by omega) (by omega))
theorem parse_sound {s : List UInt8} (h : (parseP s).2.2 = 0) : (parseP s).2.1 = 0 ∧ ∃ t, OkT t ∧ (parseP s).1 = post t ∧ (post t).length ≤ 32 ∧ (pcT t).1.length ≤ s.length := by
 have hg := goes s (s.length * 10 + 8) (.joins 1) 0 [] (by omega)
 have hs := (sound s (s.length * 10 + 8)).1 1 0 [] (by omega) (by omega)
 unfold parseP at h ⊢
 split at h
 ·cases h
 ·rename_i h6
  rw [if_neg h6]
  split at h
  ·cases h
  ·rename_i h1
   rw [if_neg h1]
   split at h
   ·cases h
   ·rename_i h2
    rw [if_neg h2]
    have hb : (D s (s.length * 10 + 8) (.joins 1) 0 []).1 = true := by
     cases hb : (D s (s.length * 10 + 8) (.joins 1) 0 []).1
     ·exact absurd (Or.inl hb) h1
     ·rfl
    obtain ⟨t, g1, g2, g3⟩ := hs hb
    have hst := strength g1
    rw [show ((1 : Nat) : Int) = 1 from rfl, txt_own (by omega)] at g3
    rw [List.nil_append] at g2
    have := hg.le
    exact ⟨rfl, t, g1, g2, by rw [← g2]; omega, by omega⟩
theorem parse_none {s : List UInt8} (h : (parseP s).2.2 ≠ 0) : (parseP s).1 = [] := by
 unfold parseP at h ⊢
 split
 ·rfl
 ·rename_i h6
  rw [if_neg h6] at h
  split
  ·rfl
  ·rename_i h1
   rw [if_neg h1] at h
   split
   ·rfl
   ·rename_i h2
    rw [if_neg h2] at h
    exact absurd rfl h
end Go.Proofs.YtdooeonilbpfgaaGreatDoor
namespace Go.Proofs.YtdooeonilbpfgaaGreatDoor
open Go.RowKit
def eventB (l : List UInt8) : Bool := nameB (Lib.trimPrefix l [100, 111, 110, 101, 46])
theorem event_any (s : ByteArray) (w : World) :
  Calls Tryz.prog 80 #[.string s] w fun e w' => e = .returned (.bool (eventB s.data.toList)) ∧ w = w' := by
 go_enter Tryz.func80, Tryz.ntmps80
 go_wp2_with fail
 refine (Tryz.strings_TrimPrefix s ⟨#[100, 111, 110, 101, 46]⟩ w).mono ?_
 rintro e w' ⟨rfl, rfl⟩
 go_wp2_with fail
 refine (name_any _ _).mono ?_
 rintro e w' ⟨rfl, rfl⟩
 go_wp2
 go_ret
 exact ⟨rfl, rfl⟩
theorem hasPrefix_iff (l p : List UInt8) : Lib.hasPrefix l p = true ↔ l.take p.length = p := by
 unfold Lib.hasPrefix
 rw [List.isPrefixOf_iff_prefix, List.prefix_iff_eq_take]
 exact ⟨fun h => h.symm, fun h => h.symm⟩
end Go.Proofs.YtdooeonilbpfgaaGreatDoor
namespace Go.Proofs.YtdooeonilbpfgaaGreatDoor
structure AM where
 kd : Int
 nm : List UInt8
 ex : List CM
def isIn (c : CM) : Bool := decide (c.op = 6)
def asksB (cs : List CM) : Bool := cs.any isIn
def oneB (a : AM) : Bool :=
 if a.kd = 1 then nameB a.nm && rightB a.ex && !asksB a.ex else if a.kd = 2 ∨ a.kd = 3 then eventB a.nm && decide (a.ex.length = 0) else false
def rightA (l : List AM) : Bool := decide (1 ≤ l.length ∧ l.length ≤ 8) && l.all oneB
def wRaise : List UInt8 := [114, 97, 105, 115, 101, 58]
def wSend : List UInt8 := [115, 101, 110, 100, 58]
def textA (a : AM) : List UInt8 := if a.kd = 2 then wRaise ++ a.nm else if a.kd = 3 then wSend ++ a.nm else a.nm ++ [61] ++ (showP a.ex).1
def showA (l : List AM) : List UInt8 × Int := if rightA l = true then (Lib.join (l.map textA) [59], 0) else ([], 1)
def semis : List UInt8 → List (List UInt8)
 | [] => [[]]
 | c :: r => if c = 59 then [] :: semis r else match semis r with
  | [] => [[c]]
  | p :: ps => (c :: p) :: ps
def readA (s : List UInt8) : AM :=
 if Lib.hasPrefix s wRaise = true then ⟨2, s.drop 6, []⟩ else if Lib.hasPrefix s wSend = true then ⟨3, s.drop 5, []⟩ else ⟨1, (Lib.cut s [61]).1, (parseP (Lib.cut s [61]).2.1).1⟩
def parseA (s : List UInt8) : List AM × Int :=
 if 6000 < s.length ∨ 8 ≤ Lib.countByte s 59 then ([], 4) else if ((semis s).map readA).all oneB = true then ((semis s).map readA, 0) else ([], 1)
theorem semis_ne (s : List UInt8) : semis s ≠ [] := by
 cases s with
 | nil => simp [semis]
 | cons c r =>
  unfold semis
  split
  ·simp
  ·split <;> simp
theorem semis_len (s : List UInt8) : (semis s).length = Lib.countByte s 59 + 1 := by
 induction s with
 | nil => rfl
 | cons c r ih =>
  unfold semis
  by_cases h : c = 59
  ·subst h
   simp only [if_true, List.length_cons, ih, Lib.countByte, List.count_cons_self]
  ·rw [if_neg h]
   have e : Lib.countByte (c :: r) 59 = Lib.countByte r 59 := by unfold Lib.countByte; rw [List.count_cons_of_ne h]
   rw [e, ← ih]
   cases hp : semis r with
   | nil => exact absurd hp (semis_ne r)
   | cons p ps => rfl
theorem semis_none {s : List UInt8} (h : ∀ c ∈ s, c ≠ 59) : semis s = [s] := by
 induction s with
 | nil => rfl
 | cons c r ih =>
  unfold semis
  rw [if_neg (h c (by simp)), ih (fun x hx => h x (by simp [hx]))]
theorem semis_cut {p : List UInt8} (h : ∀ c ∈ p, c ≠ 59) (r : List UInt8) : semis (p ++ 59 :: r) = p :: semis r := by
 induction p with
 | nil => rfl
 | cons c q ih =>
  show semis (c :: (q ++ 59 :: r)) = _
  conv => lhs; unfold semis
  rw [if_neg (h c (by simp)), ih (fun x hx => h x (by simp [hx]))]
theorem semis_join : ∀ (ts : List (List UInt8)), ts ≠ [] → (∀ t ∈ ts, ∀ c ∈ t, c ≠ 59) → semis (Lib.join ts [59]) = ts
 | [], h, _ => absurd rfl h
 | [t], _, h => by rw [Lib.join_one]; exact semis_none (h t (by simp))
 | t :: u :: r, _, h => by
  have e : Lib.join (t :: u :: r) [59] = t ++ 59 :: Lib.join (u :: r) [59] := by
   rw [Lib.join_cons, Lib.join_cons]
   simp [Lib.joinTail]
  rw [e, semis_cut (h t (by simp)), semis_join (u :: r) (by simp) (fun x hx => h x (by simp [hx]))]
theorem at_index : ∀ {s : List UInt8} {c : UInt8} {i : Nat}, Lib.indexByte s c = i → s = s.take i ++ c :: s.drop (i + 1) ∧ ∀ x ∈ s.take i, x ≠ c
 | [], c, i, h => by simp [Lib.indexByte] at h
 | b :: l, c, i, h => by
  unfold Lib.indexByte at h
  split at h
  ·rename_i hb
   have : i = 0 := by omega
   subst this
   have := beq_iff_eq.1 hb
   subst this
   exact ⟨rfl, by simp⟩
  ·rename_i hb
   split at h
   ·omega
   ·rename_i hn
    have hg := Lib.indexByte_ge l c
    have hn' : Lib.indexByte l c ≠ -1 := fun e => hn (by rw [e]; rfl)
    obtain ⟨k, hk⟩ : ∃ k : Nat, Lib.indexByte l c = k := ⟨(Lib.indexByte l c).toNat, by omega⟩
    have : i = k + 1 := by omega
    subst this
    obtain ⟨h1, h2⟩ := at_index hk
    refine ⟨?_, ?_⟩
    ·show b :: l = b :: (l.take k ++ c :: l.drop (k + 1))
     rw [← h1]
    ·intro x hx
     rw [List.take_succ_cons] at hx
     rcases List.mem_cons.1 hx with rfl | hx
     ·intro e; subst e; exact hb (by simp)
     ·exact h2 x hx
theorem index_no : ∀ {s : List UInt8} {c : UInt8}, Lib.indexByte s c = -1 → ∀ x ∈ s, x ≠ c
 | [], c, h => by simp
 | b :: l, c, h => by
  unfold Lib.indexByte at h
  split at h
  ·omega
  ·rename_i hb
   split at h
   ·rename_i hn
    have hn := beq_iff_eq.1 hn
    intro x hx
    rcases List.mem_cons.1 hx with rfl | hx
    ·intro e; subst e; exact hb (by simp)
    ·exact index_no hn x hx
   ·have := Lib.indexByte_ge l c; omega
theorem split_pieces : ∀ (k : Nat) (s : List UInt8), Lib.countByte s 59 = k → Lib.splitK [59] 0 k s = semis s
 | 0, s, h => by
  have : ∀ c ∈ s, c ≠ 59 := by
   intro c hc e
   subst e
   exact absurd h (by unfold Lib.countByte; have := List.count_pos_iff.2 hc; omega)
  rw [semis_none this]; rfl
 | k + 1, s, h => by
  unfold Lib.splitK
  rw [Lib.index_one]
  have hg := Lib.indexByte_ge s 59
  by_cases hn : Lib.indexByte s 59 = -1
  ·have := index_no hn
   exfalso
   have h0 : Lib.countByte s 59 = 0 := List.count_eq_zero.2 (fun hm => this _ hm rfl)
   omega
  ·obtain ⟨i, hi⟩ : ∃ i : Nat, Lib.indexByte s 59 = i := ⟨(Lib.indexByte s 59).toNat, by omega⟩
   obtain ⟨h1, h2⟩ := at_index hi
   rw [hi, if_neg (by simp <;> omega)]
   have hc : Lib.countByte (s.drop (i + 1)) 59 = k := by
    have e : Lib.countByte s 59 = Lib.countByte (s.take i ++ 59 :: s.drop (i + 1)) 59 := by rw [← h1]
    rw [h] at e
    unfold Lib.countByte at e ⊢
    rw [List.count_append, List.count_eq_zero.2 (fun hm => h2 _ hm rfl), List.count_cons_self] at e
    omega
   have ih := split_pieces k _ hc
   have e2 : semis s = s.take i :: semis (s.drop (i + 1)) := by
    conv => lhs; rw [h1]
    exact semis_cut h2 _
   rw [e2, ← ih]
   rfl
theorem split_is (s : ByteArray) : (Lib.splitB ⟨#[59]⟩ 0 (Lib.countB s ⟨#[59]⟩) s).map (·.data.toList) = semis s.data.toList := by
 rw [Lib.splitB_data]
 have e : Lib.countB s ⟨#[59]⟩ = Lib.countByte s.data.toList 59 := Lib.count_one 59 s.data.toList
 rw [e]
 exact split_pieces _ _ rfl
/-! signs of a text -/
theorem okB_not {c : UInt8} (h : okB c = true) : c ≠ 59 ∧ c ≠ 61 ∧ c ≠ 58 := by
 refine ⟨?_, ?_, ?_⟩ <;> (rintro rfl; revert h; decide)
theorem name_signs {l : List UInt8} (h : nameB l = true) : ∀ c ∈ l, c ≠ 59 ∧ c ≠ 61 ∧ c ≠ 58 := by
 cases l with
 | nil => intro c hc; simp at hc
 | cons a r =>
  simp only [nameB, Bool.and_eq_true] at h
  obtain ⟨⟨⟨_, ha⟩, hr⟩, _⟩ := h
  intro c hc
  rcases List.mem_cons.1 hc with rfl | hc
  ·exact okB_not (by unfold okB; rw [ha]; rfl)
  ·exact okB_not (List.all_eq_true.1 hr _ hc)
theorem event_signs {l : List UInt8} (h : eventB l = true) : ∀ c ∈ l, c ≠ 59 := by
 unfold eventB Lib.trimPrefix at h
 split at h
 ·rename_i hp
  have hp := (hasPrefix_iff _ _).1 hp
  intro c hc
  rw [← List.take_append_drop 5 l] at hc
  rcases List.mem_append.1 hc with hc | hc
  ·rw [show l.take 5 = [100, 111, 110, 101, 46] from hp] at hc
   have key : ∀ x ∈ ([100, 111, 110, 101, 46] : List UInt8), x ≠ 59 := by decide
   exact key c hc
  ·exact (name_signs h c hc).1
 ·exact fun c hc => (name_signs h c hc).1
theorem dec_signs : ∀ (n : Nat), ∀ c ∈ Lib.decDigits n, c ≠ 59 := by
 intro n
 induction n using Nat.strongRecOn with
 | ind n ih =>
  intro c hc
  by_cases h : n < 10
  ·rw [dec_small h] at hc
   simp at hc
   subst hc
   have : n = 0 ∨ n = 1 ∨ n = 2 ∨ n = 3 ∨ n = 4 ∨ n = 5 ∨ n = 6 ∨ n = 7 ∨ n = 8 ∨ n = 9 := by omega
   rcases this with rfl | rfl | rfl | rfl | rfl | rfl | rfl | rfl | rfl | rfl <;> decide
  ·rw [dec_big h] at hc
   rcases List.mem_append.1 hc with hc | hc
   ·exact ih _ (by omega) c hc
   ·simp at hc
    subst hc
    have : n % 10 = 0 ∨ n % 10 = 1 ∨ n % 10 = 2 ∨ n % 10 = 3 ∨ n % 10 = 4 ∨ n % 10 = 5 ∨ n % 10 = 6 ∨ n % 10 = 7 ∨ n % 10 = 8 ∨ n % 10 = 9 := by omega
    rcases this with e | e | e | e | e | e | e | e | e | e <;> rw [e] <;> decide
theorem inP_signs {x : List UInt8} (h : ∀ c ∈ x, c ≠ 59) (a b : Int) : ∀ c ∈ inP x a b, c ≠ 59 := by
 unfold inP
 split
 ·intro c hc
  simp only [List.mem_append, List.mem_singleton] at hc
  rcases hc with (rfl | hc) | rfl
  ·decide
  ·exact h c hc
  ·decide
 ·exact h
theorem tab_signs (k : Nat) : ∀ c ∈ (tabAt k).2.1, c ≠ 59 := by
 by_cases hk : k < 13
 ·have hh : k = 0 ∨ k = 1 ∨ k = 2 ∨ k = 3 ∨ k = 4 ∨ k = 5 ∨ k = 6 ∨ k = 7 ∨ k = 8 ∨ k = 9 ∨ k = 10 ∨ k = 11 ∨ k = 12 := by omega
  rcases hh with rfl | rfl | rfl | rfl | rfl | rfl | rfl | rfl | rfl | rfl | rfl | rfl | rfl <;> decide
 ·have e : tabAt k = (0, [], 0) := by
   unfold tabAt
   rw [List.getD_eq_getElem?_getD, List.getElem?_eq_none (by show 13 ≤ k; omega)]; rfl
  rw [e]; intro c hc; cases hc
theorem leaf_signs {c : CM} (h : OkT (.leaf c)) : ∀ x ∈ (joinP c none0 none0).1, x ≠ 59 := by
 have h16 : 1 ≤ c.op ∧ c.op ≤ 6 := by
  have h1 := formed_op h.1
  have ho := h.2
  unfold operN at ho
  split at ho
  ·assumption
  ·split at ho <;> omega
 unfold joinP
 split
 ·rename_i e; have := formed_num h.1 (Or.inl e); simp only; rw [itoa_nat this.1]; exact dec_signs _
 ·split
  ·rename_i e
   have := formed_num h.1 (Or.inr e)
   simp only
   rw [itoa_nat this.1]
   intro x hx
   simp only [List.mem_append, List.mem_singleton] at hx
   rcases hx with hx | rfl
   ·exact dec_signs _ x hx
   ·decide
  ·split
   ·intro x hx; revert hx; revert x; simp only [wTrue]; decide
   ·split
    ·intro x hx; revert hx; revert x; simp only [wFalse]; decide
    ·have hn : ∀ (o : Int), c.op = o → (o = 5 ∨ o = 6) → nameB c.nm = true := by
      intro o e ho
      have := h.1
      unfold formedB at this
      rw [if_neg (by omega), if_neg (by omega), if_pos (by omega)] at this
      simp at this
      exact this.2
     split
     ·rename_i e; exact fun x hx => (name_signs (hn _ e (Or.inl rfl)) x hx).1
     ·split
      ·rename_i e
       intro x hx
       simp only [List.mem_append, List.mem_singleton] at hx
       rcases hx with (hx | hx) | rfl
       ·revert hx; revert x; decide
       ·exact (name_signs (hn _ e (Or.inr rfl)) x hx).1
       ·decide
      ·exfalso; omega
theorem tree_signs {t : T} (h : OkT t) : ∀ x ∈ (pcT t).1, x ≠ 59 := by
 induction t with
 | leaf c => exact leaf_signs h
 | un o t ih =>
  have ih := ih h.2.2
  have hc : o = 7 ∨ o = 8 ∨ o = 9 ∨ o = 10 := by have := h.1; have := h.2.1; omega
  have h6 := inP_signs ih (pcT t).2 6
  rcases hc with rfl | rfl | rfl | rfl
  ·show ∀ x ∈ [45] ++ inP (pcT t).1 (pcT t).2 6, x ≠ 59
   intro x hx
   rcases List.mem_append.1 hx with hx | hx
   ·simp at hx; subst hx; decide
   ·exact h6 x hx
  ·show ∀ x ∈ [33] ++ inP (pcT t).1 (pcT t).2 6, x ≠ 59
   intro x hx
   rcases List.mem_append.1 hx with hx | hx
   ·simp at hx; subst hx; decide
   ·exact h6 x hx
  ·show ∀ x ∈ [114, 101, 40] ++ (pcT t).1 ++ [41], x ≠ 59
   intro x hx
   simp only [List.mem_append, List.mem_singleton] at hx
   rcases hx with (hx | hx) | rfl
   ·revert hx; revert x; decide
   ·exact ih x hx
   ·decide
  ·show ∀ x ∈ [105, 109, 40] ++ (pcT t).1 ++ [41], x ≠ 59
   intro x hx
   simp only [List.mem_append, List.mem_singleton] at hx
   rcases hx with (hx | hx) | rfl
   ·revert hx; revert x; decide
   ·exact ih x hx
   ·decide
 | bin o l r ihl ihr =>
  have h1 := ihl h.2.2.1
  have h2 := ihr h.2.2.2
  show ∀ x ∈ (joinP (opC o) (pcT l) (pcT r)).1, x ≠ 59
  rw [joinP_bin h.1]
  unfold betP
  intro x hx
  simp only [List.mem_append] at hx
  rcases hx with (hx | hx) | hx
  ·exact inP_signs h1 _ _ x hx
  ·exact tab_signs _ x hx
  ·exact inP_signs h2 _ _ x hx
theorem show_signs {cs : List CM} (h : rightB cs = true) : ∀ x ∈ (showP cs).1, x ≠ 59 := by
 obtain ⟨t, h1, rfl⟩ := right_tree h
 have hl : (post t).length ≤ 32 := by unfold rightB at h; simp at h; exact h.1
 rw [tree_show h1 hl]
 exact tree_signs h1
theorem show_len {cs : List CM} (h : rightB cs = true) : (showP cs).1.length ≤ 574 := by
 obtain ⟨t, h1, rfl⟩ := right_tree h
 have hl : (post t).length ≤ 32 := by unfold rightB at h; simp at h; exact h.1
 rw [tree_show h1 hl]
 have := text_len h1
 simp only; omega
theorem one_kinds {a : AM} (h : oneB a = true) : (a.kd = 1 ∧ nameB a.nm = true ∧ rightB a.ex = true ∧ asksB a.ex = false) ∨ ((a.kd = 2 ∨ a.kd = 3) ∧ eventB a.nm = true ∧ a.ex = []) := by
 unfold oneB at h
 split at h
 ·rename_i e
  simp at h
  exact Or.inl ⟨e, h.1.1, h.1.2, h.2⟩
 ·split at h
  ·rename_i e
   simp at h
   exact Or.inr ⟨e, h.1, h.2⟩
  ·cases h
theorem event_len {l : List UInt8} (h : eventB l = true) : l.length ≤ 17 := by
 unfold eventB Lib.trimPrefix at h
 split at h
 ·have := name_len h; simp at this; omega
 ·have := name_len h; omega
theorem text_signs {a : AM} (h : oneB a = true) : ∀ c ∈ textA a, c ≠ 59 := by
 rcases one_kinds h with ⟨e, hn, hr, _⟩ | ⟨e, he, hx⟩
 ·unfold textA
  rw [if_neg (by omega), if_neg (by omega)]
  intro c hc
  simp only [List.mem_append, List.mem_singleton] at hc
  rcases hc with (hc | rfl) | hc
  ·exact (name_signs hn c hc).1
  ·decide
  ·exact show_signs hr c hc
 ·have := event_signs he
  unfold textA
  rcases e with e | e
  ·rw [if_pos e]
   intro c hc
   rcases List.mem_append.1 hc with hc | hc
   ·have key : ∀ x ∈ wRaise, x ≠ 59 := by decide
    exact key c hc
   ·exact this c hc
  ·rw [if_neg (by omega), if_pos e]
   intro c hc
   rcases List.mem_append.1 hc with hc | hc
   ·have key : ∀ x ∈ wSend, x ≠ 59 := by decide
    exact key c hc
   ·exact this c hc
theorem textA_len {a : AM} (h : oneB a = true) : (textA a).length ≤ 587 := by
 rcases one_kinds h with ⟨e, hn, hr, _⟩ | ⟨e, he, hx⟩
 ·have h1 := name_len hn; have h2 := show_len hr
  unfold textA
  rw [if_neg (by omega), if_neg (by omega)]
  simp only [List.length_append, List.length_singleton]; omega
 ·have := event_len he
  unfold textA
  rcases e with e | e
  ·rw [if_pos e]; simp [wRaise]; omega
  ·rw [if_neg (by omega), if_pos e]; simp [wSend]; omega
theorem pre_not {w n r : List UInt8} (h : nameB n = true) (hw : w.contains 58 = true) (hw61 : w.contains 61 = false) : Lib.hasPrefix (n ++ [61] ++ r) w = false := by
 cases hp : Lib.hasPrefix (n ++ [61] ++ r) w
 ·rfl
 ·exfalso
  have ht := (hasPrefix_iff _ _).1 hp
  by_cases hl : w.length ≤ n.length
  ·rw [List.append_assoc, List.take_append_of_le_length hl] at ht
   have hm : (58 : UInt8) ∈ w := by simpa using hw
   rw [← ht] at hm
   exact (name_signs h _ (List.mem_of_mem_take hm)).2.2 rfl
  ·have hm : (61 : UInt8) ∈ w := by
    rw [← ht, List.append_assoc]
    rw [List.mem_iff_getElem?]
    refine ⟨n.length, ?_⟩
    rw [List.getElem?_take_of_lt (by omega), List.getElem?_append_right (Nat.le_refl _), Nat.sub_self]
    rfl
   rw [show w.contains 61 = true by simpa using hm] at hw61
   cases hw61
theorem index_in {n r : List UInt8} {c : UInt8} (h : ∀ x ∈ n, x ≠ c) : Lib.indexByte (n ++ c :: r) c = n.length := by
 induction n with
 | nil => simp [Lib.indexByte]
 | cons b l ih =>
  have ih := ih (fun x hx => h x (by simp [hx]))
  show Lib.indexByte (b :: (l ++ c :: r)) c = _
  unfold Lib.indexByte
  rw [if_neg (by simp; exact h b (by simp)), ih, if_neg (by simp <;> omega)]
  simp
theorem read_textA {a : AM} (h : oneB a = true) : readA (textA a) = a := by
 rcases one_kinds h with ⟨e, hn, hr, _⟩ | ⟨e, he, hx⟩
 ·have ht : textA a = a.nm ++ [61] ++ (showP a.ex).1 := by unfold textA; rw [if_neg (by omega), if_neg (by omega)]
  have hc : Lib.cut (a.nm ++ [61] ++ (showP a.ex).1) [61] = (a.nm, (showP a.ex).1, true) := by
   unfold Lib.cut
   have hi : Lib.index (a.nm ++ [61] ++ (showP a.ex).1) [61] = a.nm.length := by
    rw [Lib.index_one, List.append_assoc]
    exact index_in (fun x hx => (name_signs hn x hx).2.1)
   rw [hi, if_pos (by omega)]
   simp
  rw [ht]
  unfold readA
  rw [pre_not hn (by decide) (by decide), pre_not hn (by decide) (by decide), hc]
  simp only [Bool.false_eq_true, if_false, (back hr).1]
  cases a
  simp at e ⊢
  exact e.symm
 ·unfold textA
  rcases e with e | e
  ·rw [if_pos e]
   have hp : Lib.hasPrefix (wRaise ++ a.nm) wRaise = true := (hasPrefix_iff _ _).2 (List.take_left)
   unfold readA
   rw [if_pos hp]
   have hd : (wRaise ++ a.nm).drop 6 = a.nm := List.drop_left (l₁ := wRaise)
   rw [hd]
   cases a
   simp at e hx ⊢
   exact ⟨e.symm, hx⟩
  ·rw [if_neg (by omega), if_pos e]
   have hp : Lib.hasPrefix (wSend ++ a.nm) wSend = true := (hasPrefix_iff _ _).2 (List.take_left)
   have hq : Lib.hasPrefix (wSend ++ a.nm) wRaise = false := by
    cases hq : Lib.hasPrefix (wSend ++ a.nm) wRaise
    ·rfl
    ·have := (hasPrefix_iff _ _).1 hq
     simp [wSend, wRaise] at this
   unfold readA
   rw [if_neg (by rw [hq]; simp), if_pos hp]
   have hd : (wSend ++ a.nm).drop 5 = a.nm := List.drop_left (l₁ := wSend)
   rw [hd]
   cases a
   simp at e hx ⊢
   exact ⟨e.symm, hx⟩
theorem map_read : ∀ {l : List AM}, l.all oneB = true → (l.map textA).map readA = l
 | [], _ => rfl
 | a :: r, h => by
  simp only [List.all_cons, Bool.and_eq_true] at h
  simp only [List.map_cons, read_textA h.1, map_read h.2]
theorem join_len (ts : List (List UInt8)) (h : ∀ t ∈ ts, t.length ≤ 587) : (Lib.join ts [59]).length ≤ 588 * ts.length := by
 cases ts with
 | nil => simp [Lib.join_nil]
 | cons t r =>
  rw [Lib.join_cons]
  have h0 := h t (by simp)
  have : ∀ r : List (List UInt8), (∀ t ∈ r, t.length ≤ 587) → (Lib.joinTail [59] r).length ≤ 588 * r.length := by
   intro r
   induction r with
   | nil => intro _; simp [Lib.joinTail]
   | cons x q ih =>
    intro hq
    have h1 := ih (fun t ht => hq t (by simp [ht]))
    have h2 := hq x (by simp)
    have e : Lib.joinTail [59] (x :: q) = 59 :: x ++ Lib.joinTail [59] q := by simp [Lib.joinTail]
    rw [e]
    simp only [List.length_append, List.length_cons]
    omega
  have := this r (fun x hx => h x (by simp [hx]))
  simp only [List.length_append, List.length_cons]
  omega
theorem backA {l : List AM} (h : rightA l = true) : parseA (showA l).1 = (l, 0) ∧ (showA l).2 = 0 := by
 have hs : showA l = (Lib.join (l.map textA) [59], 0) := if_pos h
 rw [hs]
 refine ⟨?_, rfl⟩
 unfold rightA at h
 simp only [Bool.and_eq_true, decide_eq_true_eq] at h
 obtain ⟨⟨h1, h8⟩, ha⟩ := h
 have hp : semis (Lib.join (l.map textA) [59]) = l.map textA := by
  refine semis_join _ (fun e => by rw [List.map_eq_nil_iff] at e; subst e; simp at h1) ?_
  intro t ht
  obtain ⟨a, ha', rfl⟩ := List.mem_map.1 ht
  exact text_signs (List.all_eq_true.1 ha a ha')
 have hl := join_len (l.map textA) (fun t ht => by
  obtain ⟨a, ha', rfl⟩ := List.mem_map.1 ht
  exact textA_len (List.all_eq_true.1 ha a ha'))
 have hc := semis_len (Lib.join (l.map textA) [59])
 rw [hp, List.length_map] at hc
 rw [List.length_map] at hl
 show parseA (Lib.join (l.map textA) [59]) = _
 unfold parseA
 rw [if_neg (by omega), hp, map_read ha, if_pos ha]
theorem soundA {s : List UInt8} (h : (parseA s).2 = 0) : rightA (parseA s).1 = true := by
 unfold parseA at h ⊢
 split
 ·rename_i h1; rw [if_pos h1] at h; cases h
 ·rename_i h1
  rw [if_neg h1] at h
  split
  ·rename_i h2
   unfold rightA
   simp only [Bool.and_eq_true, decide_eq_true_eq]
   have := semis_len s
   refine ⟨⟨?_, ?_⟩, h2⟩ <;> rw [List.length_map] <;> omega
  ·rename_i h2
   rw [if_neg h2] at h
   cases h
end Go.Proofs.YtdooeonilbpfgaaGreatDoor
