/- Own texts, joined: To, Tp, Tq. -/
import Derived.Test.YtdooeonilbpfgaaGreatDoorR33
namespace Go.Proofs.YtdooeonilbpfgaaGreatDoor.Ch
open Go.RowKit
theorem dec_headD (u : Nat) : (Lib.decDigits u).head? ≠ some 45 := by
 obtain ⟨c, r, e, hc⟩ := dec_head_digit u
 rw [e]
 intro h
 injection h with h
 subst h
 revert hc; decide
theorem dec_isEmpty (u : Nat) : (Lib.decDigits u).isEmpty = false := List.isEmpty_eq_false_iff.2 (dec_ne u)
theorem okN_dec {l : List UInt8} {u : Nat} (h : l.drop (fOf l) = Lib.decDigits u) (h0 : u = 0 → l.length = 1) : okN l = true ∧ valN l = u := by
 refine ⟨?_, by unfold valN; rw [h, valD_dec]⟩
 unfold okN
 rw [h, dec_isEmpty, List.all_eq_true.2 (dec_all u)]
 by_cases hu : u = 0
 ·simp [h0 hu]
 ·rw [beq_eq_false_iff_ne.2 (dec_head u hu)]; rfl
theorem numP_itoa (n : Int) : numP (Lib.itoa n) = if -1099511627776 ≤ n ∧ n ≤ 1099511627776 then (n, 0) else (0, 5) := by
 unfold Lib.itoa
 by_cases hn : n < 0
 ·rw [if_pos hn]
  have h45 : (45 :: Lib.decDigits n.natAbs).head? = some (45 : UInt8) := rfl
  have hf : fOf (45 :: Lib.decDigits n.natAbs) = 1 := by unfold fOf; rw [if_pos h45]
  obtain ⟨h1, h2⟩ := okN_dec (l := 45 :: Lib.decDigits n.natAbs) (u := n.natAbs) (by rw [hf]; rfl) (by omega)
  by_cases hr : -1099511627776 ≤ n ∧ n ≤ 1099511627776
  ·rw [if_pos hr, numP_neg h1 (by rw [h2]; omega) h45, h2]
   congr 1; omega
  ·rw [if_neg hr, numP_range h1 (by rw [h2]; omega)]
 ·rw [if_neg hn]
  have hne := dec_headD n.toNat
  have hf : fOf (Lib.decDigits n.toNat) = 0 := by unfold fOf; rw [if_neg hne]
  obtain ⟨h1, h2⟩ := okN_dec (l := Lib.decDigits n.toNat) (u := n.toNat) (by rw [hf]; rfl) (by intro e; rw [e, dec_zero]; rfl)
  by_cases hr : -1099511627776 ≤ n ∧ n ≤ 1099511627776
  ·rw [if_pos hr, numP_pos h1 (by rw [h2]; omega) hne, h2]
   congr 1; omega
  ·rw [if_neg hr, numP_range h1 (by rw [h2]; omega)]
def Num (n : Int) : Prop := -1099511627776 ≤ n ∧ n ≤ 1099511627776
theorem numP_back {w : List UInt8} (h : (numP w).2 = 0) : Num (numP w).1 ∧ Lib.itoa (numP w).1 = w := by
 cases hok : okN w with
 | false => rw [numP_form hok] at h; cases h
 | true =>
  by_cases hv : 1099511627776 < valN w
  ·rw [numP_range hok hv] at h; cases h
  ·have ho := hok
   unfold okN at ho
   simp only [Bool.and_eq_true, Bool.not_eq_true', List.isEmpty_eq_false_iff, List.all_eq_true] at ho
   obtain ⟨⟨hne, hall⟩, hz⟩ := ho
   by_cases h45 : w.head? = some 45
   ·have hf : fOf w = 1 := by unfold fOf; rw [if_pos h45]
    rw [hf] at hne hall hz
    have hv1 : valN w = valD 0 (w.drop 1) := by unfold valN; rw [hf]
    have hl : 1 < w.length := by
     have := List.length_pos_iff.2 hne
     rw [List.length_drop] at this; omega
    have h48 : (w.drop 1).head? ≠ some 48 := by
     intro e
     rw [e, decide_eq_true hl] at hz
     revert hz; decide
    have hu := dec_unique _ (w.drop 1) rfl hall hne (fun e => absurd e h48)
    have hw : w = 45 :: w.drop 1 := by
     cases w with
     | nil => simp at h45
     | cons c r => simp at h45; subst h45; rfl
    have h0 : valN w ≠ 0 := by
     intro e
     rw [← hv1, e, dec_zero] at hu
     rw [← hu] at h48
     exact h48 rfl
    rw [numP_neg hok hv h45]
    refine ⟨⟨?_, ?_⟩, ?_⟩
    ·show _ ≤ -(valN w : Int); omega
    ·show -(valN w : Int) ≤ _; omega
    ·show Lib.itoa (-(valN w : Int)) = w
     rw [Pl.itoa_neg' (by omega), show (-(valN w : Int)).natAbs = valN w by omega, hv1, hu]
     exact hw.symm
   ·have hf : fOf w = 0 := by unfold fOf; rw [if_neg h45]
    rw [hf, List.drop_zero] at hne hall hz
    have hv1 : valN w = valD 0 w := by unfold valN; rw [hf, List.drop_zero]
    have hu := dec_unique _ w rfl hall hne (fun e => by
     rw [e] at hz
     have : ¬ 1 < w.length := by
      intro hl
      rw [decide_eq_true hl] at hz
      revert hz; decide
     have := List.length_pos_iff.2 hne
     omega)
    rw [numP_pos hok hv h45]
    refine ⟨⟨?_, ?_⟩, ?_⟩
    ·show _ ≤ (valN w : Int); omega
    ·show (valN w : Int) ≤ _; omega
    ·show Lib.itoa (valN w : Int) = w
     rw [itoa_nat (by omega), show (valN w : Int).toNat = valN w by omega, hv1, hu]
theorem num_itoa {n : Int} (h : Num n) : numP (Lib.itoa n) = (n, 0) := by rw [numP_itoa]; exact if_pos h
def VGood (v : VM) : Prop := nameB v.nm = true ∧ ((v.kd = 1 ∧ v.ik = 1 ∧ Num v.lo ∧ Num v.hi ∧ Num v.ia ∧ v.ib = 0) ∨ (v.kd = 2 ∧ v.ik = 2 ∧ v.lo = 0 ∧ v.hi = 1 ∧ (v.ia = 0 ∨ v.ia = 1) ∧ v.ib = 0) ∨ (v.kd = 3 ∧ v.ik = 3 ∧ Num v.lo ∧ Num v.hi ∧ Pl.inB v.ia = true ∧ Pl.inB v.ib = true))
def AGood (l : List AM) : Prop := l = [] ∨ rightA l = true
def SGood (s : SC) : Prop := nameB s.nm = true ∧ (((s.kd = 1 ∨ s.kd = 3 ∨ s.kd = 4) ∧ s.ini = []) ∨ ((s.kd = 2 ∨ s.kd = 5 ∨ s.kd = 6) ∧ nameB s.ini = true)) ∧ AGood s.en ∧ AGood s.ex
def TGood (t : TC) : Prop := (t.ev = [] ∨ eventB t.ev = true) ∧ (t.gd = [] ∨ rightB t.gd = true) ∧ (t.to = [] ∨ nameB t.to = true) ∧ AGood t.ac
def roomR : Int → List SC → Int
 | r, [] => r
 | _, s :: q => roomR (s.dp + 1) q
def Deps : Int → List SC → Prop
 | _, [] => True
 | r, s :: q => 0 ≤ s.dp ∧ s.dp ≤ r ∧ Deps (s.dp + 1) q
def Froms : Int → Int → List TC → Prop
 | _, _, [] => True
 | lo, n, t :: r => lo ≤ t.fr ∧ t.fr < n ∧ Froms t.fr n r
structure Good (c : CH) : Prop where
 nm : nameB c.nm = true
 es : ∀ e ∈ c.es, nameB e = true
 vs : ∀ v ∈ c.vs, VGood v
 ss : ∀ s ∈ c.ss, SGood s
 dp : Deps 0 c.ss
 ts : ∀ t ∈ c.ts, TGood t
 fr : Froms 0 c.ss.length c.ts
theorem roomR_snoc : ∀ (l : List SC) (r : Int) (s : SC), roomR r (l ++ [s]) = s.dp + 1
 | [], _, _ => rfl
 | _x :: q, _, s => roomR_snoc q _ s
theorem roomC_is (l : List SC) : roomC l = roomR 0 l := by
 rcases List.eq_nil_or_concat l with rfl | ⟨q, s, rfl⟩
 ·rfl
 ·rw [List.concat_eq_append, roomC_snoc, roomR_snoc]
theorem deps_snoc : ∀ (l : List SC) (r : Int) (s : SC), Deps r l → 0 ≤ s.dp → s.dp ≤ roomR r l → Deps r (l ++ [s])
 | [], _, _, _, h0, h1 => ⟨h0, h1, trivial⟩
 | _x :: q, _, s, h, h0, h1 => ⟨h.1, h.2.1, deps_snoc q _ s h.2.2 h0 h1⟩
theorem deps_last : ∀ (l : List SC) (r : Int) (s s' : SC), s'.dp = s.dp → Deps r (l ++ [s]) → Deps r (l ++ [s'])
 | [], r, s, s', e, h => by
  have h : 0 ≤ s.dp ∧ s.dp ≤ r ∧ Deps (s.dp + 1) [] := h
  show 0 ≤ s'.dp ∧ s'.dp ≤ r ∧ True
  rw [e]; exact ⟨h.1, h.2.1, trivial⟩
 | x :: q, _, s, s', e, h => ⟨h.1, h.2.1, deps_last q _ s s' e h.2.2⟩
theorem froms_snoc : ∀ (l : List TC) (lo n : Int) (t : TC), Froms lo n l → lo < n → t.fr = n - 1 → Froms lo n (l ++ [t])
 | [], lo, n, t, _, h0, h1 => ⟨by omega, by omega, trivial⟩
 | x :: q, lo, n, t, h, h0, h1 => ⟨h.1, h.2.1, froms_snoc q _ n t h.2.2 h.2.1 h1⟩
theorem froms_more : ∀ (l : List TC) (lo n m : Int), n ≤ m → Froms lo n l → Froms lo m l
 | [], _, _, _, _, _ => trivial
 | _x :: q, _, n, m, hm, h => ⟨h.1, Int.lt_of_lt_of_le h.2.1 hm, froms_more q _ n m hm h.2.2⟩
theorem froms_left (d : Int) : ∀ (l : List TC) (i n : Int), Froms i n l → Froms (i + 1) n (trC d i l).2
 | [], _, _, _ => trivial
 | t :: r, i, n, h => by
  unfold trC
  by_cases e : t.fr = i
  ·rw [if_pos e]
   have := h.2.2
   rw [e] at this
   exact froms_left d r i n this
  ·rw [if_neg e]
   have := h.1
   exact ⟨by omega, h.2.1, h.2.2⟩
theorem froms_none {i n : Int} (h : n ≤ i) : ∀ {l : List TC}, Froms i n l → l = []
 | [], _ => rfl
 | t :: r, hl => by have := hl.1; have := hl.2.1; omega
theorem trC_last (d i : Int) (t : TC) (ht : t.fr = i) : ∀ (l : List TC), Froms i (i + 1) l → trC d i (l ++ [t]) = ((trC d i l).1 ++ [(d, onL t)], [])
 | [], _ => by
  show trC d i [t] = _
  unfold trC
  rw [if_pos ht]; rfl
 | x :: q, h => by
  have e : x.fr = i := by have := h.1; have := h.2.1; omega
  have hq := h.2.2
  rw [e] at hq
  rw [List.cons_append]
  unfold trC
  rw [if_pos e, if_pos e, trC_last d i t ht q hq]
  rfl
theorem trC_on (d i : Int) (t : TC) (ht : t.fr ≠ i) : ∀ (l : List TC), trC d i (l ++ [t]) = ((trC d i l).1, (trC d i l).2 ++ [t])
 | [] => by
  show trC d i [t] = _
  unfold trC
  rw [if_neg ht]; rfl
 | x :: q => by
  rw [List.cons_append]
  unfold trC
  by_cases e : x.fr = i
  ·rw [if_pos e, if_pos e, trC_on d i t ht q]
  ·rw [if_neg e, if_neg e]; rfl
theorem trC_mem (d i : Int) : ∀ (l : List TC), (∀ t ∈ (trC d i l).2, t ∈ l)
 | [], t, h => by cases h
 | x :: q, t, h => by
  unfold trC at h
  split at h
  ·exact List.mem_cons_of_mem _ (trC_mem d i q t h)
  ·exact h
theorem body_state (s : SC) : ∀ (ss : List SC) (i : Nat) (ts : List TC), Froms i (i + ss.length : Nat) ts → bodyC i (ss ++ [s]) ts = bodyC i ss ts ++ stC s
 | [], i, ts, h => by
  obtain rfl := froms_none (by simp) h
  show stC s ++ [] ++ [] = [] ++ stC s
  simp
 | x :: q, i, ts, h => by
  have h2 := froms_left (x.dp + 1) ts i _ h
  show stC x ++ (trC (x.dp + 1) i ts).1 ++ bodyC (i + 1) (q ++ [s]) (trC (x.dp + 1) i ts).2 = _
  rw [body_state s q (i + 1) _ (by rw [List.length_cons] at h2; rw [show i + 1 + q.length = i + (q.length + 1) by omega]; exact h2)]
  show _ = stC x ++ (trC (x.dp + 1) i ts).1 ++ bodyC (i + 1) q (trC (x.dp + 1) i ts).2 ++ stC s
  simp only [List.append_assoc]
theorem body_trans (s : SC) (t : TC) : ∀ (ss : List SC) (i : Nat) (ts : List TC), Froms i (i + ss.length + 1 : Nat) ts → t.fr = (i + ss.length : Nat) → bodyC i (ss ++ [s]) (ts ++ [t]) = bodyC i (ss ++ [s]) ts ++ [(s.dp + 1, onL t)]
 | [], i, ts, h, ht => by
  show stC s ++ (trC (s.dp + 1) i (ts ++ [t])).1 ++ [] = stC s ++ (trC (s.dp + 1) i ts).1 ++ [] ++ _
  rw [trC_last _ _ _ (by simpa using ht) ts (by simpa using h)]
  simp
 | x :: q, i, ts, h, ht => by
  rw [List.length_cons] at h ht
  have h2 := froms_left (x.dp + 1) ts i _ h
  show stC x ++ (trC (x.dp + 1) i (ts ++ [t])).1 ++ bodyC (i + 1) (q ++ [s]) (trC (x.dp + 1) i (ts ++ [t])).2 = stC x ++ (trC (x.dp + 1) i ts).1 ++ bodyC (i + 1) (q ++ [s]) (trC (x.dp + 1) i ts).2 ++ _
  rw [trC_on _ _ _ (by omega) ts]
  show stC x ++ (trC (x.dp + 1) i ts).1 ++ bodyC (i + 1) (q ++ [s]) ((trC (x.dp + 1) i ts).2 ++ [t]) = _
  rw [body_trans s t q (i + 1) _ (by rw [show i + 1 + q.length + 1 = i + (q.length + 1) + 1 by omega]; exact h2) (by omega)]
  simp only [List.append_assoc]
theorem body_last (dp : Int) : ∀ (ss : List SC) (i : Nat) (ts : List TC), ∃ P Q, ∀ s : SC, s.dp = dp → bodyC i (ss ++ [s]) ts = P ++ stC s ++ Q
 | [], i, ts => ⟨[], (trC (dp + 1) i ts).1, fun s hs => by
  show stC s ++ (trC (s.dp + 1) i ts).1 ++ [] = _
  rw [hs]; simp⟩
 | x :: q, i, ts => by
  obtain ⟨P, Q, h⟩ := body_last dp q (i + 1) (trC (x.dp + 1) i ts).2
  refine ⟨stC x ++ (trC (x.dp + 1) i ts).1 ++ P, Q, fun s hs => ?_⟩
  show stC x ++ (trC (x.dp + 1) i ts).1 ++ bodyC (i + 1) (q ++ [s]) (trC (x.dp + 1) i ts).2 = _
  rw [h s hs]
  simp only [List.append_assoc]
end Go.Proofs.YtdooeonilbpfgaaGreatDoor.Ch
namespace Go.Proofs.YtdooeonilbpfgaaGreatDoor.Ch
open Go.RowKit
def partsC (c : CH) : List Call := if c.nm = [] then [] else callsC c
def szL (ws : List (List UInt8)) : Nat := ws.length + sumL ws
def Ins (c c' : CH) (n : Nat) : Prop := ∃ A x B, partsC c = A ++ B ∧ partsC c' = A ++ x :: B ∧ (lineX x).length ≤ n
theorem ins_of {c c' : CH} {n : Nat} (h : c.nm ≠ []) (h' : c'.nm = c.nm) (A B : List Call) (x : Call) (h1 : callsC c = A ++ B) (h2 : callsC c' = A ++ x :: B) (hn : x.2 ≠ []) (h3 : x.1.toNat + szL x.2 ≤ n) : Ins c c' n := by
 refine ⟨A, x, B, ?_, ?_, ?_⟩
 ·unfold partsC; rw [if_neg h]; exact h1
 ·unfold partsC; rw [if_neg (by rw [h']; exact h)]; exact h2
 ·unfold lineX; rw [lineTx_len _ hn]; exact h3
theorem one_word {r : List (List UInt8)} (h : r.length = 1) : r = [wd r 0] := by
 match r, h with
 | [x], _ => rfl
theorem two_words {r : List (List UInt8)} (h : r.length = 2) : r = [wd r 0, wd r 1] := by
 match r, h with
 | [x, y], _ => rfl
theorem four_words {r : List (List UInt8)} (h : r.length = 4) : r = [wd r 0, wd r 1, wd r 2, wd r 3] := by
 match r, h with
 | [x, y, z, u], _ => rfl
theorem sumL_cons (x : List UInt8) (r : List (List UInt8)) : sumL (x :: r) = x.length + sumL r := by simp [sumL]
theorem szL_cons (x : List UInt8) (r : List (List UInt8)) : szL (x :: r) = x.length + 1 + szL r := by unfold szL; rw [sumL_cons, List.length_cons]; omega
theorem headB_parts {c : CH} {d n : Nat} {r : List (List UInt8)} (h : headB c d n r = true) : c.nm ≠ [] ∧ c.ss = [] ∧ d = 0 ∧ r.length = n := by
 unfold headB at h
 simp only [Bool.and_eq_true, Bool.not_eq_true', List.isEmpty_eq_false_iff, List.isEmpty_iff, decide_eq_true_eq] at h
 exact ⟨h.1.1.1, h.1.1.2, h.1.2, h.2⟩
theorem partB_parts {c : CH} {d n : Nat} {r : List (List UInt8)} (h : partB c d n r = true) : ∃ q s, c.ss = q ++ [s] ∧ (d : Int) = s.dp + 1 ∧ r.length = n := by
 unfold partB at h
 simp only [Bool.and_eq_true, Bool.not_eq_true', List.isEmpty_eq_false_iff, decide_eq_true_eq] at h
 obtain ⟨⟨h1, h2⟩, h3⟩ := h
 rcases List.eq_nil_or_concat c.ss with e | ⟨q, s, e⟩
 ·exact absurd e h1
 ·rw [List.concat_eq_append] at e
  rw [e, roomC_snoc] at h2
  exact ⟨q, s, e, h2, h3⟩
theorem good_nm {c : CH} (h : Good c) : c.nm ≠ [] := nameB_ne h.nm
theorem var_ins {c : CH} (hc : Good c) {v : VM} (hv : VGood v) {ls : List (List UInt8)} (hl : varL v = some ls) {n : Nat} (hn : szL ls ≤ n) : Good { c with vs := c.vs ++ [v] } ∧ Ins c { c with vs := c.vs ++ [v] } n := by
 refine ⟨⟨hc.nm, hc.es, fun u hu => ?_, hc.ss, hc.dp, hc.ts, hc.fr⟩, ?_⟩
 ·rcases List.mem_append.1 hu with hu | hu
  ·exact hc.vs u hu
  ·simp at hu; subst hu; exact hv
 ·refine ins_of (good_nm hc) rfl ((0, [wChart, c.nm]) :: (c.es.map (fun e => ((0 : Int), [wEvent, e])) ++ c.vs.flatMap (fun v => optC 0 (varL v)))) (bodyC 0 c.ss c.ts) (0, ls) rfl ?_ (varL_ne hl) (by simpa using hn)
  unfold callsC headC
  simp only [List.flatMap_append, List.flatMap_cons, List.flatMap_nil, hl, optC]
  simp
theorem varS_ins {c c' : CH} (hc : Good c) {v : VM} (h : varS c v = some c') (hv : nameB v.nm = true → VGood v) {ls : List (List UInt8)} (hl : varL v = some ls) {n : Nat} (hn : szL ls ≤ n) : Good c' ∧ Ins c c' n := by
 unfold varS at h
 split at h
 ·rename_i hb
  injection h with h; subst h
  exact var_ins hc (hv hb) hl hn
 ·cases h
theorem state_ins {c : CH} (hc : Good c) {s : SC} (hs : SGood s) (he : s.en = []) (hx : s.ex = []) (h0 : 0 ≤ s.dp) (h1 : s.dp ≤ roomC c.ss) {ls : List (List UInt8)} (hl : headL s = some ls) {n : Nat} (hn : s.dp.toNat + szL ls ≤ n) : Good { c with ss := c.ss ++ [s] } ∧ Ins c { c with ss := c.ss ++ [s] } n := by
 refine ⟨⟨hc.nm, hc.es, hc.vs, fun u hu => ?_, deps_snoc _ _ _ hc.dp h0 (by rw [← roomC_is]; exact h1), hc.ts, ?_⟩, ?_⟩
 ·rcases List.mem_append.1 hu with hu | hu
  ·exact hc.ss u hu
  ·simp at hu; subst hu; exact hs
 ·exact froms_more _ _ _ _ (by simp; omega) hc.fr
 ·refine ins_of (good_nm hc) rfl (callsC c) [] (s.dp, ls) (by simp) ?_ (headL_ne hl) hn
  show headC c ++ bodyC 0 (c.ss ++ [s]) c.ts = headC c ++ bodyC 0 c.ss c.ts ++ _
  rw [body_state s c.ss 0 c.ts (by simpa using hc.fr)]
  unfold stC
  rw [hl, he, hx]
  simp [blkL, optC]
theorem block_ins {c : CH} (hc : Good c) {q : List SC} {s s' : SC} (hq : c.ss = q ++ [s]) (hs : SGood s') (hd : s'.dp = s.dp) {P Q : List Call} {x : Call} (h1 : stC s = P ++ Q) (h2 : stC s' = P ++ x :: Q) (hx : x.2 ≠ []) {n : Nat} (hn : x.1.toNat + szL x.2 ≤ n) : Good { c with ss := q ++ [s'] } ∧ Ins c { c with ss := q ++ [s'] } n := by
 have hfr := hc.fr; have hdp := hc.dp; have hss := hc.ss
 rw [hq] at hfr hdp hss
 refine ⟨⟨hc.nm, hc.es, hc.vs, fun u hu => ?_, deps_last q 0 s s' hd hdp, hc.ts, ?_⟩, ?_⟩
 ·rcases List.mem_append.1 hu with hu | hu
  ·exact hss u (by simp [hu])
  ·simp at hu; subst hu; exact hs
 ·show Froms 0 ((q ++ [s']).length : Nat) c.ts
  rw [List.length_append] at hfr ⊢
  exact hfr
 ·obtain ⟨A, B, hab⟩ := body_last s.dp q 0 c.ts
  refine ins_of (good_nm hc) rfl (headC c ++ (A ++ P)) (Q ++ B) x ?_ ?_ hx hn
  ·unfold callsC
   rw [hq, hab s rfl, h1]
   simp
  ·show headC c ++ bodyC 0 (q ++ [s']) c.ts = _
   rw [hab s' hd, h2]
   simp
theorem trans_ins {c : CH} (hc : Good c) {q : List SC} {s : SC} (hq : c.ss = q ++ [s]) {t : TC} (ht : TGood t) (hf : t.fr = (c.ss.length : Int) - 1) {n : Nat} (hn : (s.dp + 1).toNat + szL (onL t) ≤ n) : Good { c with ts := c.ts ++ [t] } ∧ Ins c { c with ts := c.ts ++ [t] } n := by
 have hlen : c.ss.length = q.length + 1 := by rw [hq]; simp
 refine ⟨⟨hc.nm, hc.es, hc.vs, hc.ss, hc.dp, fun u hu => ?_, ?_⟩, ?_⟩
 ·rcases List.mem_append.1 hu with hu | hu
  ·exact hc.ts u hu
  ·simp at hu; subst hu; exact ht
 ·exact froms_snoc c.ts 0 (c.ss.length : Nat) t hc.fr (by rw [hlen]; omega) hf
 ·refine ins_of (good_nm hc) rfl (callsC c) [] (s.dp + 1, onL t) (by simp) ?_ (onL_ne t) hn
  show headC c ++ bodyC 0 c.ss (c.ts ++ [t]) = headC c ++ bodyC 0 c.ss c.ts ++ _
  have hfr := hc.fr
  rw [hlen] at hfr
  rw [hq, body_trans s t q 0 c.ts (by simpa using hfr) (by omega)]
  simp
theorem parse_guard {w : List UInt8} (h : (parseP w).2.2 = 0) : rightB (parseP w).1 = true ∧ (showP (parseP w).1).1.length ≤ w.length := by
 obtain ⟨_, t, h1, h2, h3, h4⟩ := parse_sound h
 rw [h2]
 have hs := tree_show h1 h3
 refine ⟨?_, by rw [hs]; exact h4⟩
 by_cases hr : rightB (post t) = true
 ·exact hr
 ·exfalso
  rw [show_no (by simpa using hr)] at hs
  injection hs with hs _
  have := post_pos t
  have hn : (pcT t).1 ≠ [] := by
   intro e
   have hb := read_text h1 h3
   rw [e] at hb
   have : (parseP []).2.2 = 0 := by rw [hb]
   revert this; decide +kernel
  exact hn hs.symm
theorem cut_short (s : List UInt8) : (Lib.cut s [61]).1.length + 1 + (Lib.cut s [61]).2.1.length ≤ s.length ∨ (Lib.cut s [61]).2.1 = [] := by
 unfold Lib.cut
 split
 ·by_cases h : s.drop ((Lib.index s [61]).toNat + [(61 : UInt8)].length) = []
  ·exact Or.inr h
  ·left
   have h1 := List.length_pos_iff.2 h
   rw [List.length_drop] at h1
   show (s.take (Lib.index s [61]).toNat).length + 1 + (s.drop ((Lib.index s [61]).toNat + [(61 : UInt8)].length)).length ≤ s.length
   rw [List.length_take, List.length_drop]
   simp at h1 ⊢
   omega
 ·exact Or.inr rfl
theorem read_len {s : List UInt8} (h : oneB (readA s) = true) : (textA (readA s)).length ≤ s.length := by
 unfold readA at h ⊢
 by_cases h1 : Lib.hasPrefix s wRaise = true
 ·rw [if_pos h1]
  have hp := (hasPrefix_iff _ _).1 h1
  have hl : s.length = 6 + (s.drop 6).length := by
   have := congrArg List.length (List.take_append_drop 6 s)
   rw [List.length_append, show s.take 6 = wRaise from hp] at this
   have e : wRaise.length = 6 := rfl
   omega
  show (wRaise ++ s.drop 6).length ≤ _
  rw [List.length_append, show wRaise.length = 6 from rfl]
  omega
 ·rw [if_neg h1] at h ⊢
  by_cases h2 : Lib.hasPrefix s wSend = true
  ·rw [if_pos h2]
   have hp := (hasPrefix_iff _ _).1 h2
   have hl : s.length = 5 + (s.drop 5).length := by
    have := congrArg List.length (List.take_append_drop 5 s)
    rw [List.length_append, show s.take 5 = wSend from hp] at this
    have e : wSend.length = 5 := rfl
    omega
   show (wSend ++ s.drop 5).length ≤ _
   rw [List.length_append, show wSend.length = 5 from rfl]
   omega
  ·rw [if_neg h2] at h ⊢
   show ((Lib.cut s [61]).1 ++ [61] ++ (showP (parseP (Lib.cut s [61]).2.1).1).1).length ≤ _
   have ho : rightB (parseP (Lib.cut s [61]).2.1).1 = true := by
    unfold oneB at h
    rw [if_pos rfl] at h
    simp only [Bool.and_eq_true] at h
    exact h.1.2
   have hok : (parseP (Lib.cut s [61]).2.1).2.2 = 0 := by
    by_cases hz : (parseP (Lib.cut s [61]).2.1).2.2 = 0
    ·exact hz
    ·rw [parse_none hz] at ho
     exact absurd ho (by decide)
   rcases cut_short s with hl | hl
   ·have := (parse_guard hok).2
    rw [List.length_append, List.length_append, List.length_singleton]
    omega
   ·rw [hl] at hok
    exact absurd hok (by decide +kernel)
theorem semis_sum : ∀ s : List UInt8, ((semis s).map List.length).sum + (semis s).length = s.length + 1
 | [] => rfl
 | c :: r => by
  have ih := semis_sum r
  unfold semis
  split
  ·simp; omega
  ·split
   ·rename_i e; exact absurd e (semis_ne r)
   ·rename_i p ps e
    rw [e] at ih
    simp at ih ⊢
    omega
theorem join59_len (ts : List (List UInt8)) (h : ts ≠ []) : (Lib.join ts [59]).length + 1 = (ts.map List.length).sum + ts.length := by
 cases ts with
 | nil => exact absurd rfl h
 | cons x r =>
  rw [Lib.join_cons]
  unfold Lib.joinTail
  have : ∀ q : List (List UInt8), ((q.map ([59] ++ ·)).flatten).length = (q.map List.length).sum + q.length := by
   intro q
   induction q with
   | nil => rfl
   | cons y q ih => simp at ih ⊢; omega
  have := this r
  simp at this ⊢
  omega
theorem sum_le {α : Type} (f g : α → Nat) : ∀ l : List α, (∀ x ∈ l, f x ≤ g x) → (l.map f).sum ≤ (l.map g).sum
 | [], _ => Nat.le_refl _
 | x :: r, h => by
  have h1 := h x (by simp)
  have h2 := sum_le f g r (fun y hy => h y (by simp [hy]))
  simp; omega
theorem parse_block {w : List UInt8} (h : (parseA w).2 = 0) : rightA (parseA w).1 = true ∧ (showA (parseA w).1).1.length ≤ w.length := by
 refine ⟨soundA h, ?_⟩
 have hr := soundA h
 have hs : showA (parseA w).1 = (Lib.join ((parseA w).1.map textA) [59], 0) := if_pos hr
 rw [hs]
 have hp : (parseA w).1 = (semis w).map readA := by
  unfold parseA at h ⊢
  split
  ·rename_i h1; rw [if_pos h1] at h; cases h
  ·rename_i h1
   rw [if_neg h1] at h
   split
   ·rfl
   ·rename_i h2; rw [if_neg h2] at h; cases h
 rw [hp] at hr ⊢
 unfold rightA at hr
 rw [Bool.and_eq_true] at hr
 have ha := List.all_eq_true.1 hr.2
 have h1 := join59_len (((semis w).map readA).map textA) (by
  intro e
  rw [List.map_eq_nil_iff, List.map_eq_nil_iff] at e
  exact semis_ne w e)
 have h2 := semis_sum w
 have h3 := sum_le (fun x => (textA (readA x)).length) List.length (semis w) (fun x hx => read_len (ha _ (List.mem_map_of_mem hx)))
 simp only [List.length_map, List.map_map] at h1
 have e : ((semis w).map (List.length ∘ textA ∘ readA)).sum = ((semis w).map (fun x => (textA (readA x)).length)).sum := rfl
 have e2 : (Lib.join ((semis w).map (textA ∘ readA)) [59]).length ≤ w.length := by
  have : ((semis w).map (List.length ∘ textA ∘ readA)).sum = ((semis w).map (List.length ∘ (textA ∘ readA))).sum := rfl
  omega
 rw [List.map_map]
 exact e2
end Go.Proofs.YtdooeonilbpfgaaGreatDoor.Ch
namespace Go.Proofs.YtdooeonilbpfgaaGreatDoor.Ch
open Go.RowKit
theorem num_word {w : List UInt8} (h : (numP w).2 = 0) : Lib.itoa (numP w).1 = w := (numP_back h).2
theorem dash_ev {w : List UInt8} (h : evOk w = true) : (dashed [] w w = [] ∨ eventB (dashed [] w w) = true) ∧ (if dashed [] w w = [] then [45] else dashed [] w w) = w := by
 unfold evOk at h
 unfold dashed
 by_cases e : w = wDash
 ·rw [if_pos e]; exact ⟨Or.inl rfl, by rw [if_pos rfl]; exact e.symm⟩
 ·rw [if_neg e]
  rw [decide_eq_false e, Bool.false_or] at h
  exact ⟨Or.inr h, by rw [if_neg (event_ne h)]⟩
theorem dash_to {w : List UInt8} (h : toOk w = true) : (dashed [] w w = [] ∨ nameB (dashed [] w w) = true) ∧ (if dashed [] w w = [] then [45] else dashed [] w w) = w := by
 unfold toOk at h
 unfold dashed
 by_cases e : w = wDash
 ·rw [if_pos e]; exact ⟨Or.inl rfl, by rw [if_pos rfl]; exact e.symm⟩
 ·rw [if_neg e]
  rw [decide_eq_false e, Bool.false_or] at h
  exact ⟨Or.inr h, by rw [if_neg (nameB_ne h)]⟩
theorem rightB_ne {cs : List CM} (h : rightB cs = true) : cs ≠ [] := by intro e; subst e; revert h; decide
theorem rightA_ne {l : List AM} (h : rightA l = true) : l ≠ [] := by intro e; subst e; revert h; decide
theorem dash_gd {w : List UInt8} (h : gdOk w = true) : (dashed [] w (parseP w).1 = [] ∨ rightB (dashed [] w (parseP w).1) = true) ∧ (if dashed [] w (parseP w).1 = [] then [45] else (showP (dashed [] w (parseP w).1)).1).length ≤ w.length := by
 unfold gdOk at h
 unfold dashed
 by_cases e : w = wDash
 ·rw [if_pos e]; exact ⟨Or.inl rfl, by rw [if_pos rfl, e]; exact Nat.le_refl _⟩
 ·rw [if_neg e]
  rw [decide_eq_false e, Bool.false_or, decide_eq_true_eq] at h
  obtain ⟨h1, h2⟩ := parse_guard h
  exact ⟨Or.inr h1, by rw [if_neg (rightB_ne h1)]; exact h2⟩
theorem dash_ac {w : List UInt8} (h : acOk w = true) : AGood (dashed [] w (parseA w).1) ∧ (if dashed [] w (parseA w).1 = [] then [45] else (showA (dashed [] w (parseA w).1)).1).length ≤ w.length := by
 unfold acOk at h
 unfold dashed
 by_cases e : w = wDash
 ·rw [if_pos e]; exact ⟨Or.inl rfl, by rw [if_pos rfl, e]; exact Nat.le_refl _⟩
 ·rw [if_neg e]
  rw [decide_eq_false e, Bool.false_or, decide_eq_true_eq] at h
  obtain ⟨h1, h2⟩ := parse_block h
  exact ⟨Or.inr h1, by rw [if_neg (rightA_ne h1)]; exact h2⟩
theorem varL_int (nm : List UInt8) (lo hi ik ia ib : Int) : varL ⟨nm, 1, lo, hi, ik, ia, ib⟩ = some [wInt, nm, Lib.itoa lo, Lib.itoa hi, Lib.itoa ia] := rfl
theorem varL_bool (nm : List UInt8) (lo hi ik ia ib : Int) : varL ⟨nm, 2, lo, hi, ik, ia, ib⟩ = some [wBool, nm, if ia = 1 then wTrue else wFalse] := rfl
theorem varL_point (nm : List UInt8) (lo hi ik ia ib : Int) : varL ⟨nm, 3, lo, hi, ik, ia, ib⟩ = some [wPoint, nm, Lib.itoa lo, Lib.itoa hi, ptB ia ib] := rfl
theorem ptB_in {a b : Int} (ha : Pl.inB a = true) (hb : Pl.inB b = true) : ptB a b = Pl.shw a b := by unfold ptB; rw [ha, hb]; rfl
theorem name_ins {c' : CH} {d : Nat} {r : List (List UInt8)} (h : nameS noCH d r = some c') : Good c' ∧ Ins noCH c' (d + szL (wChart :: r)) := by
 unfold nameS at h
 split at h
 ·rename_i hb
  injection h with h; subst h
  simp only [Bool.and_eq_true, decide_eq_true_eq] at hb
  obtain ⟨⟨⟨_, hd⟩, hl⟩, hn⟩ := hb
  refine ⟨⟨hn, fun e he => (by cases he), fun e he => (by cases he), fun e he => (by cases he), trivial, fun e he => (by cases he), trivial⟩, [], (0, [wChart, wd r 0]), [], ?_, ?_, ?_⟩
  ·rfl
  ·unfold partsC; rw [if_neg (nameB_ne hn)]; rfl
  ·unfold lineX
   rw [lineTx_len _ (by simp)]
   have := one_word hl
   rw [this]
   show 0 + szL [wChart, wd [wd r 0] 0] ≤ _
   have e : wd [wd r 0] 0 = wd r 0 := rfl
   rw [e]
   omega
 ·cases h
theorem event_ins {c c' : CH} (hc : Good c) {d : Nat} {r : List (List UInt8)} (h : eventS c d r = some c') : Good c' ∧ Ins c c' (d + szL (wEvent :: r)) := by
 unfold eventS at h
 split at h
 ·rename_i hb
  injection h with h; subst h
  rw [Bool.and_eq_true] at hb
  obtain ⟨_, _, hd, hl⟩ := headB_parts hb.1
  refine ⟨⟨hc.nm, fun u hu => ?_, hc.vs, hc.ss, hc.dp, hc.ts, hc.fr⟩, ?_⟩
  ·rcases List.mem_append.1 hu with hu | hu
   ·exact hc.es u hu
   ·simp at hu; subst hu; exact hb.2
  ·refine ins_of (good_nm hc) rfl ((0, [wChart, c.nm]) :: c.es.map (fun e => ((0 : Int), [wEvent, e]))) (c.vs.flatMap (fun v => optC 0 (varL v)) ++ bodyC 0 c.ss c.ts) (0, [wEvent, wd r 0]) ?_ ?_ (by simp) ?_
   ·unfold callsC headC; simp
   ·unfold callsC headC; simp
   ·rw [one_word hl]
    have e : wd [wd r 0] 0 = wd r 0 := rfl
    rw [e]
    show 0 + szL [wEvent, wd r 0] ≤ d + szL [wEvent, wd r 0]
    omega
 ·cases h
theorem int_ins {c c' : CH} (hc : Good c) {d : Nat} {r : List (List UInt8)} (h : intS c d r = some c') : Good c' ∧ Ins c c' (d + szL (wInt :: r)) := by
 unfold intS at h
 split at h
 ·rename_i hb
  obtain ⟨_, _, hd, hl⟩ := headB_parts hb.1
  unfold boundS at h
  split at h
  ·rename_i h12
   have hv : varL ⟨wd r 0, 1, (numP (wd r 1)).1, (numP (wd r 2)).1, 1, (numP (wd r 3)).1, 0⟩ = some [wInt, wd r 0, wd r 1, wd r 2, wd r 3] := by
    rw [varL_int, num_word h12.1, num_word h12.2, num_word hb.2]
   refine varS_ins hc h (fun hn => ⟨hn, Or.inl ⟨rfl, rfl, (numP_back h12.1).1, (numP_back h12.2).1, (numP_back hb.2).1, rfl⟩⟩) hv ?_
   rw [← four_words hl]
   omega
  ·cases h
 ·cases h
theorem point_ins {c c' : CH} (hc : Good c) {d : Nat} {r : List (List UInt8)} (h : pointS c d r = some c') : Good c' ∧ Ins c c' (d + szL (wPoint :: r)) := by
 unfold pointS at h
 split at h
 ·rename_i hb
  obtain ⟨_, _, hd, hl⟩ := headB_parts hb
  split at h
  ·rename_i a b hab
   obtain ⟨ha, hbb, hw⟩ := Pl.refL_some hab
   unfold boundS at h
   split at h
   ·rename_i h12
    have hv : varL ⟨wd r 0, 3, (numP (wd r 1)).1, (numP (wd r 2)).1, 3, a, b⟩ = some [wPoint, wd r 0, wd r 1, wd r 2, wd r 3] := by
     rw [varL_point, num_word h12.1, num_word h12.2, ptB_in ha hbb, ← hw]
    refine varS_ins hc h (fun hn => ⟨hn, Or.inr (Or.inr ⟨rfl, rfl, (numP_back h12.1).1, (numP_back h12.2).1, ha, hbb⟩)⟩) hv ?_
    rw [← four_words hl]
    omega
   ·cases h
  ·cases h
 ·cases h
theorem bool_ins {c c' : CH} (hc : Good c) {d : Nat} {r : List (List UInt8)} (h : boolS c d r = some c') : Good c' ∧ Ins c c' (d + szL (wBool :: r)) := by
 unfold boolS at h
 split at h
 ·rename_i hb
  obtain ⟨_, _, hd, hl⟩ := headB_parts hb.1
  have hv : varL ⟨wd r 0, 2, 0, 1, 2, if wd r 1 = wTrue then 1 else 0, 0⟩ = some [wBool, wd r 0, wd r 1] := by
   rw [varL_bool]
   rcases hb.2 with e | e
   ·rw [if_pos e, if_pos rfl, e]
   ·rw [if_neg (by rw [e]; decide), e]
  refine varS_ins hc h (fun hn => ⟨hn, Or.inr (Or.inl ⟨rfl, rfl, rfl, rfl, ?_, rfl⟩)⟩) hv ?_
  ·show (if wd r 1 = wTrue then (1 : Int) else 0) = 0 ∨ (if wd r 1 = wTrue then (1 : Int) else 0) = 1
   split
   ·exact Or.inr rfl
   ·exact Or.inl rfl
  ·rw [← two_words hl]
   omega
 ·cases h
theorem state1_ins {k : Int} {w : List UInt8} (hw : ∀ s : SC, s.kd = k → headL s = some [w, s.nm]) (hk : k = 1 ∨ k = 3 ∨ k = 4) {c c' : CH} (hc : Good c) {d : Nat} {r : List (List UInt8)} (h : stateS k 1 c d r = some c') : Good c' ∧ Ins c c' (d + szL (w :: r)) := by
 unfold stateS at h
 split at h
 ·rename_i hb
  injection h with h; subst h
  unfold stateB at hb
  simp only [Bool.and_eq_true, decide_eq_true_eq] at hb
  obtain ⟨⟨⟨_, hd⟩, hl⟩, hn⟩ := hb
  have hr := one_word hl
  have hn0 : nameB (wd r 0) = true := List.all_eq_true.1 hn _ (by rw [hr]; exact List.mem_cons_self)
  refine state_ins hc (s := ⟨wd r 0, k, d, [], [], []⟩) ⟨hn0, Or.inl ⟨hk, rfl⟩, Or.inl rfl, Or.inl rfl⟩ rfl rfl (Int.natCast_nonneg d) hd (hw _ rfl) ?_
  show (d : Int).toNat + szL [w, wd r 0] ≤ _
  rw [← hr]
  simp
 ·cases h
theorem state2_ins {k : Int} {w : List UInt8} (hw : ∀ s : SC, s.kd = k → headL s = some [w, s.nm, s.ini]) (hk : k = 2 ∨ k = 5 ∨ k = 6) {c c' : CH} (hc : Good c) {d : Nat} {r : List (List UInt8)} (h : stateS k 2 c d r = some c') : Good c' ∧ Ins c c' (d + szL (w :: r)) := by
 unfold stateS at h
 split at h
 ·rename_i hb
  injection h with h; subst h
  unfold stateB at hb
  simp only [Bool.and_eq_true, decide_eq_true_eq] at hb
  obtain ⟨⟨⟨_, hd⟩, hl⟩, hn⟩ := hb
  have hr := two_words hl
  have hn0 : nameB (wd r 0) = true := List.all_eq_true.1 hn _ (by rw [hr]; exact List.mem_cons_self)
  have hn1 : nameB (wd r 1) = true := List.all_eq_true.1 hn _ (by rw [hr]; exact List.mem_cons_of_mem _ List.mem_cons_self)
  refine state_ins hc (s := ⟨wd r 0, k, d, wd r 1, [], []⟩) ⟨hn0, Or.inr ⟨hk, hn1⟩, Or.inl rfl, Or.inl rfl⟩ rfl rfl (Int.natCast_nonneg d) hd (hw _ rfl) ?_
  show (d : Int).toNat + szL [w, wd r 0, wd r 1] ≤ _
  rw [← hr]
  simp
 ·cases h
theorem szL_nil : szL [] = 0 := rfl
theorem entry_ins {c c' : CH} (hc : Good c) {d : Nat} {r : List (List UInt8)} (h : entryS c d r = some c') : Good c' ∧ Ins c c' (d + szL (wEntry :: r)) := by
 unfold entryS at h
 split at h
 ·rename_i hb
  obtain ⟨q, s, hq, hd, hl⟩ := partB_parts hb
  rw [lastS_snoc hq] at h
  obtain ⟨s', hs', h⟩ := Option.map_eq_some_iff.1 h
  subst h
  split at hs'
  ·rename_i he
   injection hs' with hs'; subst hs'
   obtain ⟨hr, hlen⟩ := parse_block he.2
   have hen : s.en = [] := List.eq_nil_of_length_eq_zero he.1
   have hg := hc.ss s (by rw [hq]; simp)
   refine block_ins hc hq (s' := { s with en := (parseA (wd r 0)).1 }) ⟨hg.1, hg.2.1, Or.inr hr, hg.2.2.2⟩ rfl (P := optC s.dp (headL s)) (Q := optC (s.dp + 1) (blkL wExit s.ex)) (x := (s.dp + 1, [wEntry, (showA (parseA (wd r 0)).1).1])) ?_ ?_ (by simp) ?_
   ·unfold stC; rw [hen]; simp [blkL, optC]
   ·unfold stC
    have e : blkL wEntry (parseA (wd r 0)).1 = some [wEntry, (showA (parseA (wd r 0)).1).1] := if_neg (rightA_ne hr)
    show optC s.dp (headL s) ++ optC (s.dp + 1) (blkL wEntry (parseA (wd r 0)).1) ++ _ = _
    rw [e]
    simp [optC]
   ·rw [one_word hl]
    have e : wd [wd r 0] 0 = wd r 0 := rfl
    rw [e, ← hd]
    simp only [szL_cons, szL_nil]
    omega
  ·cases hs'
 ·cases h
theorem exit_ins {c c' : CH} (hc : Good c) {d : Nat} {r : List (List UInt8)} (h : exitS c d r = some c') : Good c' ∧ Ins c c' (d + szL (wExit :: r)) := by
 unfold exitS at h
 split at h
 ·rename_i hb
  obtain ⟨q, s, hq, hd, hl⟩ := partB_parts hb
  rw [lastS_snoc hq] at h
  obtain ⟨s', hs', h⟩ := Option.map_eq_some_iff.1 h
  subst h
  split at hs'
  ·rename_i he
   injection hs' with hs'; subst hs'
   obtain ⟨hr, hlen⟩ := parse_block he.2
   have hex : s.ex = [] := List.eq_nil_of_length_eq_zero he.1
   have hg := hc.ss s (by rw [hq]; simp)
   refine block_ins hc hq (s' := { s with ex := (parseA (wd r 0)).1 }) ⟨hg.1, hg.2.1, hg.2.2.1, Or.inr hr⟩ rfl (P := optC s.dp (headL s) ++ optC (s.dp + 1) (blkL wEntry s.en)) (Q := []) (x := (s.dp + 1, [wExit, (showA (parseA (wd r 0)).1).1])) ?_ ?_ (by simp) ?_
   ·unfold stC; rw [hex]; simp [blkL, optC]
   ·unfold stC
    have e : blkL wExit (parseA (wd r 0)).1 = some [wExit, (showA (parseA (wd r 0)).1).1] := if_neg (rightA_ne hr)
    show optC s.dp (headL s) ++ optC (s.dp + 1) (blkL wEntry s.en) ++ optC (s.dp + 1) (blkL wExit (parseA (wd r 0)).1) = _
    rw [e]
    simp [optC]
   ·rw [one_word hl]
    have e : wd [wd r 0] 0 = wd r 0 := rfl
    rw [e, ← hd]
    simp only [szL_cons, szL_nil]
    omega
  ·cases hs'
 ·cases h
theorem on_ins {c c' : CH} (hc : Good c) {d : Nat} {r : List (List UInt8)} (h : onS c d r = some c') : Good c' ∧ Ins c c' (d + szL (wOn :: r)) := by
 unfold onS at h
 split at h
 ·rename_i hb
  injection h with h; subst h
  simp only [Bool.and_eq_true] at hb
  obtain ⟨⟨⟨⟨hp, h0⟩, h1⟩, h2⟩, h3⟩ := hb
  obtain ⟨q, s, hq, hd, hl⟩ := partB_parts hp
  have e0 := dash_ev h0; have e1 := dash_gd h1; have e2 := dash_to h2; have e3 := dash_ac h3
  refine trans_ins hc hq (t := onT c.ss.length r) ⟨e0.1, e1.1, e2.1, e3.1⟩ rfl ?_
  rw [← hd, four_words hl]
  have f0 := congrArg List.length e0.2; have f2 := congrArg List.length e2.2
  have f1 := e1.2; have f3 := e3.2
  have hw : ∀ i, i < 4 → wd [wd r 0, wd r 1, wd r 2, wd r 3] i = wd r i := by
   intro i hi
   have : i = 0 ∨ i = 1 ∨ i = 2 ∨ i = 3 := by omega
   rcases this with rfl | rfl | rfl | rfl <;> rfl
  unfold onL onT
  simp only [hw 0 (by decide), hw 1 (by decide), hw 2 (by decide), hw 3 (by decide), szL_cons, szL_nil]
  omega
 ·cases h
theorem step_ins {f : List UInt8} {g : StepS} (hf : stepF f = some g) {c c' : CH} {d : Nat} {r : List (List UInt8)} (hc : c = noCH ∨ Good c) (h : g c d r = some c') : Good c' ∧ Ins c c' (d + szL (f :: r)) := by
 have hm := findS_mem hf
 simp only [stepT, List.mem_cons, Prod.mk.injEq, List.not_mem_nil, or_false] at hm
 rcases hc with rfl | hc
 ·have hno : ∀ n, headB noCH d n r = false := fun n => rfl
  have hpo : ∀ n, partB noCH d n r = false := fun n => rfl
  have hst : ∀ k n, stateS k n noCH d r = none := fun k n => rfl
  rcases hm with ⟨rfl, rfl⟩ | ⟨rfl, rfl⟩ | ⟨rfl, rfl⟩ | ⟨rfl, rfl⟩ | ⟨rfl, rfl⟩ | ⟨rfl, rfl⟩ | ⟨rfl, rfl⟩ | ⟨rfl, rfl⟩ | ⟨rfl, rfl⟩ | ⟨rfl, rfl⟩ | ⟨rfl, rfl⟩ | ⟨rfl, rfl⟩ | ⟨rfl, rfl⟩ | ⟨rfl, rfl⟩
  ·exact name_ins h
  ·exfalso; unfold eventS at h; rw [hno] at h; simp at h
  ·exfalso; unfold intS at h; rw [hno] at h; simp at h
  ·exfalso; unfold boolS at h; rw [hno] at h; simp at h
  ·exfalso; unfold pointS at h; rw [hno] at h; simp at h
  ·exfalso; rw [hst] at h; cases h
  ·exfalso; rw [hst] at h; cases h
  ·exfalso; rw [hst] at h; cases h
  ·exfalso; rw [hst] at h; cases h
  ·exfalso; rw [hst] at h; cases h
  ·exfalso; rw [hst] at h; cases h
  ·exfalso; unfold entryS at h; rw [hpo] at h; simp at h
  ·exfalso; unfold exitS at h; rw [hpo] at h; simp at h
  ·exfalso; unfold onS at h; rw [hpo] at h; simp at h
 ·rcases hm with ⟨rfl, rfl⟩ | ⟨rfl, rfl⟩ | ⟨rfl, rfl⟩ | ⟨rfl, rfl⟩ | ⟨rfl, rfl⟩ | ⟨rfl, rfl⟩ | ⟨rfl, rfl⟩ | ⟨rfl, rfl⟩ | ⟨rfl, rfl⟩ | ⟨rfl, rfl⟩ | ⟨rfl, rfl⟩ | ⟨rfl, rfl⟩ | ⟨rfl, rfl⟩ | ⟨rfl, rfl⟩
  ·exfalso
   unfold nameS at h
   split at h
   ·rename_i hb
    simp only [Bool.and_eq_true, List.isEmpty_iff] at hb
    exact good_nm hc hb.1.1.1
   ·cases h
  ·exact event_ins hc h
  ·exact int_ins hc h
  ·exact bool_ins hc h
  ·exact point_ins hc h
  ·exact state1_ins (fun s hs => by unfold headL; rw [if_pos hs]) (Or.inl rfl) hc h
  ·exact state1_ins (fun s hs => by unfold headL; rw [if_neg (by rw [hs]; decide), if_pos hs]) (Or.inr (Or.inl rfl)) hc h
  ·exact state1_ins (fun s hs => by unfold headL; rw [if_neg (by rw [hs]; decide), if_neg (by rw [hs]; decide), if_pos hs]) (Or.inr (Or.inr rfl)) hc h
  ·exact state2_ins (fun s hs => by unfold headL; rw [if_neg (by rw [hs]; decide), if_neg (by rw [hs]; decide), if_neg (by rw [hs]; decide), if_pos hs]) (Or.inl rfl) hc h
  ·exact state2_ins (fun s hs => by unfold headL; rw [if_neg (by rw [hs]; decide), if_neg (by rw [hs]; decide), if_neg (by rw [hs]; decide), if_neg (by rw [hs]; decide), if_pos hs]) (Or.inr (Or.inl rfl)) hc h
  ·exact state2_ins (fun s hs => by unfold headL; rw [if_neg (by rw [hs]; decide), if_neg (by rw [hs]; decide), if_neg (by rw [hs]; decide), if_neg (by rw [hs]; decide), if_neg (by rw [hs]; decide), if_pos hs]) (Or.inr (Or.inr rfl)) hc h
  ·exact entry_ins hc h
  ·exact exit_ins hc h
  ·exact on_ins hc h
theorem line_size {l : List UInt8} (_h : lineB l = true) : depthL l + szL (lineW l) = l.length + 1 := by
 have h1 : l = l.take (depthL l) ++ joinW (lineW l) := by
  unfold lineW
  rw [join_pieces, List.take_append_drop]
 have h2 := depth_le l
 have h3 := congrArg List.length h1
 have hne : lineW l ≠ [] := pieces_ne _
 rw [List.length_append, List.length_take, ← join_is _ hne] at h3
 have h4 : ∀ ws : List (List UInt8), ws ≠ [] → (Lib.join ws [32]).length + 1 = szL ws := by
  intro ws hw
  cases ws with
  | nil => exact absurd rfl hw
  | cons x r => rw [join_cons2]; unfold szL; rw [sumL_cons, List.length_cons]; omega
 have := h4 _ hne
 omega
theorem line_ins {c c' : CH} {l : List UInt8} (hc : c = noCH ∨ Good c) (h : lineC c l = some c') : Good c' ∧ Ins c c' (l.length + 1) := by
 unfold lineC at h
 split at h
 ·rename_i hb
  rw [← line_size hb]
  unfold stepC at h
  split at h
  ·cases h
  ·rename_i f r hw
   split at h
   ·cases h
   ·rename_i g hf
    rw [hw]
    exact step_ins hf hc h
 ·cases h
theorem fold_ins : ∀ (ls : List (List UInt8)) (c c' : CH), (c = noCH ∨ Good c) → foldC c ls = some c' → (ls = [] ∨ Good c') ∧ (partsC c').length = (partsC c).length + ls.length ∧ (fullC (partsC c')).length ≤ (fullC (partsC c)).length + (ls.map List.length).sum + ls.length
 | [], c, c', hc, h => by
  injection h with h; subst h
  exact ⟨Or.inl rfl, rfl, by simp⟩
 | l :: r, c, c', hc, h => by
  unfold foldC at h
  cases hl : lineC c l with
  | none => rw [hl] at h; cases h
  | some c2 =>
   rw [hl] at h
   obtain ⟨hg, A, x, B, h1, h2, h3⟩ := line_ins hc hl
   obtain ⟨i1, i2, i3⟩ := fold_ins r c2 c' (Or.inr hg) h
   have e1 : (partsC c2).length = (partsC c).length + 1 := by rw [h1, h2]; simp; omega
   have e2 : (fullC (partsC c2)).length ≤ (fullC (partsC c)).length + (l.length + 1) := by
    rw [h1, h2, fullC_append, fullC_append, fullC_cons]
    simp only [List.length_append]
    omega
   refine ⟨Or.inr ?_, ?_, ?_⟩
   ·rcases i1 with rfl | i1
    ·injection h with h; subst h; exact hg
    ·exact i1
   ·rw [i2, e1, List.length_cons]; omega
   ·rw [List.map_cons, List.sum_cons, List.length_cons]; omega
end Go.Proofs.YtdooeonilbpfgaaGreatDoor.Ch
