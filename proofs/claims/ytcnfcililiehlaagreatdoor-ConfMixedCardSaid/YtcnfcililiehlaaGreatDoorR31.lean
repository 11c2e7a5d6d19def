/- Own texts, joined: Bn, Bo. -/
import Derived.Test.YtcnfcililiehlaaGreatDoorR30
import Derived.TacticsInMore
import Derived.LoopNIn
import Derived.LoopIn
import Derived.Shelf.Abstract
import Derived.Shelf.RegionOpen
import Derived.OwnWalkIn
namespace Go.Proofs.YtcnfcililiehlaaGreatDoor.Ch
open Go.RowKit Go.Shelf
attribute [local go_sem] Oper.semAt_some
def cutsL : List UInt8 -> List (List UInt8)
 | [] => []
 | c :: r => if c = 10 then [10] :: cutsL r else match cutsL r with
  | [] => [[c]]
  | p :: ps => (c :: p) :: ps
theorem cutsL_cut {p : List UInt8} (h : ∀ c ∈ p, c ≠ 10) (r : List UInt8) : cutsL (p ++ 10 :: r) = (p ++ [10]) :: cutsL r := by
 induction p with
 | nil => rfl
 | cons c q ih =>
  show cutsL (c :: (q ++ 10 :: r)) = _
  conv => lhs; unfold cutsL
  rw [if_neg (h c (by simp)), ih (fun x hx => h x (by simp [hx]))];rfl
theorem cutsL_last {p : List UInt8} (hn : p ≠ []) (h : ∀ c ∈ p, c ≠ 10) : cutsL p = [p] := by
 induction p with
 | nil => exact absurd rfl hn
 | cons c q ih =>
  unfold cutsL;rw [if_neg (h c (by simp))];cases q with
  | nil => rfl
  | cons d q' => rw [ih (by simp) (fun x hx => h x (by simp [hx]))]
theorem trim_cut (p : List UInt8) : Lib.trimSuffix (p ++ [10]) [10] = p := by
 have h : Lib.hasSuffix (p ++ [10]) [10] = true := by
  unfold Lib.hasSuffix;rw [List.isSuffixOf_iff_suffix];exact ⟨p, rfl⟩
 unfold Lib.trimSuffix;rw [if_pos h];simp
theorem trim_none {p : List UInt8} (h : ∀ c ∈ p, c ≠ 10) : Lib.trimSuffix p [10] = p := by
 unfold Lib.trimSuffix;rw [if_neg];intro hs;unfold Lib.hasSuffix at hs;rw [List.isSuffixOf_iff_suffix] at hs;obtain ⟨m, rfl⟩ := hs;exact h 10 (by simp) rfl
theorem cutsL_form : ∀ (l p : List UInt8), p ∈ cutsL l -> ∃ q, (∀ c ∈ q, c ≠ 10) /\ (p = q ++ [10] \/ p = q)
 | [], p, h => by simp [cutsL] at h
 | c :: r, p, h => by
  have ih := cutsL_form r;unfold cutsL at h;split at h
  ·rename_i hc
   rcases List.mem_cons.1 h with rfl | h
   ·exact ⟨[], by simp, Or.inl rfl⟩
   ·exact ih p h
  ·rename_i hc
   split at h
   ·rw [List.mem_singleton] at h; subst h;exact ⟨[c], by simpa using hc, Or.inr rfl⟩
   ·rename_i x y hr
    rcases List.mem_cons.1 h with rfl | h
    ·obtain ⟨q, hq, hx⟩ := ih x (by rw [hr]; simp);refine ⟨c :: q, fun d hd => ?_, ?_⟩
     ·rcases List.mem_cons.1 hd with rfl | hd
      ·exact hc
      ·exact hq d hd
     ·rcases hx with rfl | rfl
      ·exact Or.inl rfl
      ·exact Or.inr rfl
    ·exact ih p (by rw [hr]; simp [h])
theorem cutsL_len : ∀ l : List UInt8, (cutsL l).length <= l.length
 | [] => Nat.le_refl _
 | c :: r => by
  have ih := cutsL_len r;unfold cutsL;split
  ·simp; exact ih
  ·split
   ·simp
   ·rename_i h; rw [h] at ih; simp at ih ⊢; omega
theorem lines_cuts : ∀ l : List UInt8, linesL l = (cutsL l).map fun p => Lib.trimSuffix p [10]
 | [] => rfl
 | c :: r => by
  have ih := lines_cuts r;unfold linesL cutsL;by_cases hc : c = 10
  ·rw [if_pos hc, if_pos hc, List.map_cons, ih];rfl
  ·rw [if_neg hc, if_neg hc];cases hr : cutsL r with
   | nil =>
    rw [hr] at ih;rw [ih];show [[c]] = [Lib.trimSuffix [c] [10]];rw [trim_none (by simpa using hc)]
   | cons p ps =>
    rw [hr] at ih;rw [ih];show (c :: Lib.trimSuffix p [10]) :: _ = Lib.trimSuffix (c :: p) [10] :: _;obtain ⟨q, hq, hx⟩ := cutsL_form r p (by rw [hr]; simp);have hcq : ∀ d ∈ c :: q, d ≠ 10 := fun d hd => by
     rcases List.mem_cons.1 hd with rfl | hd
     ·exact hc
     ·exact hq d hd
    rcases hx with rfl | rfl
    ·rw [trim_cut, show c :: (q ++ [10]) = (c :: q) ++ [10] from rfl, trim_cut]
    ·rw [trim_none hq, trim_none hcq]
theorem cuts_at {s : List UInt8} {i : Nat} (h : Lib.indexByte s 10 = (i : Int)) : i < s.length /\ cutsL s = s.take (i + 1) :: cutsL (s.drop (i + 1)) := by
 obtain ⟨h1, h2⟩ := at_index h;have hlt : i < s.length := by
  rcases Nat.lt_or_ge i s.length with h | h
  ·exact h
  ·have e : s.length = (s.take i ++ 10 :: s.drop (i + 1)).length := by rw [<- h1]
   rw [List.length_append, List.length_take, List.length_cons] at e;omega
 refine ⟨hlt, ?_⟩;have e : s.take (i + 1) = s.take i ++ [10] := by
  have := congrArg (List.take (i + 1)) h1;rw [List.take_append, List.length_take, Nat.min_eq_left (by omega), show i + 1 - i = 1 by omega, List.take_take, Nat.min_eq_right (by omega)] at this;exact this
 rw [e]
 conv => lhs; rw [h1]
 exact cutsL_cut h2 _
theorem cuts_all {s : List UInt8} (hn : s ≠ []) (h : Lib.indexByte s 10 < 0) : cutsL s = [s] := by
 have h1 : Lib.indexByte s 10 = -1 := by have := Lib.indexByte_ge s 10; omega
 exact cutsL_last hn (index_no h1)
abbrev Pc := { x : ByteArray // x.size <= 6000 }
def pcL (p : Pc) : List UInt8 := p.1.data.toList
def restN (w : World) (BS : Nat) : Nat := match w.cell? ⟨BS, 0, none⟩ with
 | some (.string s) => s.size
 | _ => 0
theorem restN_box {w : World} {BS : Nat} {R : ByteArray} (h : Boxed w BS 9 (.string R)) : restN w BS = R.size := by unfold restN; rw [h.cell]
theorem restN_cell {w : World} {BS : Nat} {R : ByteArray} (h : w.cell? ⟨BS, 0, none⟩ = some (.string R)) : restN w BS = R.size := by unfold restN; rw [h]
structure LnI (s : List UInt8) (BS : Nat) (J : List Pc -> World -> Prop) (wr : World) (R : ByteArray) (pre : List Pc) : Prop where
 box : Boxed wr BS 9 (.string R)
 all : pre.map pcL ++ cutsL R.data.toList = cutsL s
 le : R.size <= 6000
 j : J pre wr
set_option maxRecDepth 100000 in
set_option maxHeartbeats 4000000 in
theorem lines1_gives (s : ByteArray) (hs : s.size <= 6000) (BS : Nat) (W0 : World) (hB0 : Boxed W0 BS 9 (.string s)) :
 GivesS Fence.wide 2 Tryz.prog 83 #[.pointer (some ⟨BS, 0, none⟩)] (fun x : Pc => #[.string x.1]) BS
  (fun ys => ys.map pcL = cutsL s.data.toList) (fun pre => pre.map pcL <+: cutsL s.data.toList) (s.size + 1) W0 := by
 intro l J Jx W hW hJ hJx hY h0;have hBW : Boxed W BS 9 (.string s) := (hW.block BS hB0.lt).trans hB0;have HIX := Lib.hid (Tryz.strings_IndexByte);have hN : ∀ R pre, (pre : List Pc).map pcL ++ cutsL (R : ByteArray).data.toList = cutsL s.data.toList -> R.data.toList ≠ [] -> pre.length < s.size + 1 := fun R pre h hn => by
  have h1 := congrArg List.length h;rw [List.length_append, List.length_map] at h1;have h2 := cutsL_len s.data.toList;rw [<- Lib.size_eq] at h2;omega
 have HN := Lib.hid hN; have HY := Lib.hid hY; have HJ := Lib.hid hJ; have HJX := Lib.hid hJx;have HI0 : Hid (LnI s.data.toList BS J W s []) := ⟨hBW, rfl, hs, h0⟩;clear hN hY hJ hJx hB0 hW h0 hBW hs;refine callsIn_of_wp Tryz.func83 rfl trivial ?_ rfl;simp only [Tryz.ntmps83, List.size_toArray, List.length_cons, List.length_nil, Nat.reduceAdd, Nat.reduceSub, Array.replicate_succ, Array.replicate_zero, List.push_toArray, List.append_toArray, List.nil_append, List.cons_append]
 gi_wp2
 gi_loopw [3, 4] (fun x3 x4 wr => (x3 = x3 /\ x4 = x4) /\ ∃ (R : ByteArray) (pre : List Pc), LnI s.data.toList BS J wr R pre) (fun _ _ wr => restN wr BS)
 case atStart => exact ⟨⟨rfl, rfl⟩, _, _, HI0.out⟩
 case round =>
  obtain ⟨_, R, pre, hI⟩ := hrel;have HI := Lib.hid hI;have hc := hI.box.cell;have hf := hI.box.frozen;have hl := hI.le;clear hI;rcases Nat.eq_zero_or_pos R.size with h0 | h0
  ·have hR : R.data.toList = [] := List.eq_nil_of_length_eq_zero (by rw [<- Lib.size_eq]; exact h0);have hall := HI.out.all;rw [hR] at hall;have hall2 : pre.map pcL = cutsL s.data.toList := by simpa [cutsL] using hall
   have HALL := Lib.hid hall2;clear hall hall2 hR
   gi_wp2
   go_end0
   exact ⟨⟨_, rfl⟩, .inl ⟨pre, HALL.out, HI.out.j⟩⟩
  ·have hne : R.data.toList ≠ [] := fun e => (by rw [Lib.size_eq, e] at h0; exact absurd h0 (by simp))
   have hlen := HN.out R pre HI.out.all hne;rcases Int.lt_or_le (Lib.indexByte R.data.toList 10) 0 with hi | hi
   ·have hIX : ∀ W, Calls Tryz.prog 84 #[.string R, .int .u8 10] W fun e w' => e = .returned (.int .i64 (Lib.indexByte R.data.toList 10)) /\ w' = W := fun W => HIX.out R 10 W
    have hcut := cuts_all hne hi;obtain ⟨ix, hix⟩ : ∃ k, Lib.indexByte R.data.toList 10 = k := ⟨_, rfl⟩
    rw [hix] at hIX hi;have HIR := Lib.hid hIX;have hJ2 : J pre (wr.setCell ⟨BS, 0, none⟩ (.string ⟨#[]⟩)) := HJ.out pre wr _ HI.out.j (grownBy_setCell' wr BS _);have hbx2 : Boxed (wr.setCell ⟨BS, 0, none⟩ (.string ⟨#[]⟩)) BS 9 (.string ⟨#[]⟩) := HI.out.box.set _;have hall : (pre ++ [(⟨R, hl⟩ : Pc)]).map pcL ++ cutsL (⟨#[]⟩ : ByteArray).data.toList = cutsL s.data.toList := by
     have := HI.out.all;rw [hcut] at this;rw [List.map_append, List.map_cons, List.map_nil, show pcL ⟨R, hl⟩ = R.data.toList from rfl]
     simpa [cutsL] using this
    obtain ⟨fn, tmps, assign, body, hy, hQ⟩ := HY.out pre ⟨R, hl⟩ _ hJ2 hlen ⟨_, hall⟩;have HBX2 := Lib.hid hbx2; have HALL := Lib.hid hall;clear hJ2 hlen hbx2 hall hcut hIX hix
    gi_wp2_with (refine ⟨trivial, ?_⟩; gi_at_call 84; refine (callsIn_wide.2 (HIR.out _)).mono ?_; rintro e W4 ⟨rfl, h4⟩; obtain rfl := h4)
    refine hQ.mono ?_;rintro e W3 (⟨rfl, hJ3, hz3, hb3⟩ | ⟨rfl, hJx3⟩)
    ·have hbx3 : Boxed W3 BS 9 (.string ⟨#[]⟩) := hb3.trans HBX2.out;have HI3 : Hid (LnI s.data.toList BS J W3 ⟨#[]⟩ (pre ++ [(⟨R, hl⟩ : Pc)])) := ⟨hbx3, HALL.out, (by decide), hJ3⟩;have hm3 := restN_box hbx3;clear hbx3 hJ3 hz3 hb3 hQ hy
     gi_wp2
     go_roundw
     case rel => first | exact ⟨⟨trivial, trivial⟩, _, _, HI3.out⟩ | exact ⟨⟨rfl, rfl⟩, _, _, HI3.out⟩ | exact ⟨trivial, _, _, HI3.out⟩ | exact ⟨_, _, HI3.out⟩
     case measure => rw [hm3, restN_cell hc]; exact h0
    ·gi_wp2
     refine bodyPost_ret (results_none rfl _ _ _) rfl ?_;exact ⟨⟨_, rfl⟩, .inr ⟨pre ++ [⟨R, hl⟩], ⟨_, HALL.out⟩, hJx3⟩⟩
   ·obtain ⟨k, hk⟩ : ∃ k : Nat, Lib.indexByte R.data.toList 10 = (k : Int) := ⟨(Lib.indexByte R.data.toList 10).toNat, by omega⟩
    have hIX : ∀ W, Calls Tryz.prog 84 #[.string R, .int .u8 10] W fun e w' => e = .returned (.int .i64 (k : Int)) /\ w' = W := fun W => hk ▸ HIX.out R 10 W
    obtain ⟨hkl, hcut⟩ := cuts_at hk;have hkl2 : k < R.size := by rw [Lib.size_eq]; exact hkl
    have HIR := Lib.hid hIX;have hx1 : (R.extract 0 (k + 1)).data.toList = R.data.toList.take (k + 1) := by rw [Lib.extract_data]; simp
    have hx2 : (R.extract (k + 1) R.size).data.toList = R.data.toList.drop (k + 1) := by rw [Lib.extract_data, List.take_of_length_le]; rw [List.length_drop, <- Lib.size_eq]; exact Nat.le_refl _
    have hxs : (R.extract (k + 1) R.size).size = R.size - (k + 1) := by rw [ByteArray.size_extract]; omega
    obtain ⟨X1, hX1⟩ : ∃ X, X = R.extract 0 (k + 1) := ⟨_, rfl⟩
    obtain ⟨X2, hX2⟩ : ∃ X, X = R.extract (k + 1) R.size := ⟨_, rfl⟩
    have hx1l : X1.size <= 6000 := by rw [hX1, ByteArray.size_extract]; omega
    rw [<- hX1] at hx1;rw [<- hX2] at hx2 hxs;obtain ⟨W2, hW2⟩ : ∃ W, W = (wr.setCell ⟨BS, 0, none⟩ (.string X2)).drew := ⟨_, rfl⟩
    have hJ2 : J pre W2 := HJ.out pre wr W2 HI.out.j (by rw [hW2]; have g := grownBy_setCell' wr BS (.string X2); exact ⟨g.os, g.tape, g.output, g.size, g.block⟩);have hbx2 : Boxed W2 BS 9 (.string X2) := hW2 ▸ HI.out.box.set (.string X2);have hall : (pre ++ [(⟨X1, hx1l⟩ : Pc)]).map pcL ++ cutsL X2.data.toList = cutsL s.data.toList := by
     have := HI.out.all;rw [hcut] at this;rw [List.map_append, List.map_cons, List.map_nil, hx2, List.append_assoc];rw [show pcL ⟨X1, hx1l⟩ = R.data.toList.take (k + 1) from hx1]
     simpa using this
    obtain ⟨fn, tmps, assign, body, hy, hQ⟩ := HY.out pre ⟨X1, hx1l⟩ W2 hJ2 hlen ⟨_, hall⟩;have HBX2 := Lib.hid hbx2; have HALL := Lib.hid hall; have HW2 := Lib.hid hW2; have HX1 := Lib.hid hX1; have HX2 := Lib.hid hX2;have hw6 : IntKind.i64.wrap ((k : Int) + 1) = (k : Int) + 1 := IntWalk.i64_in _ (by omega);have p0 : (0 : Int) <= (k : Int) + 1 := by omega
    have p1 : (k : Int) + 1 <= (R.size : Int) := by omega
    have p2 : k + 1 <= R.size := by omega
    have p3 : ((k : Int) + 1).toNat = k + 1 := by omega
    clear hJ2 hlen hbx2 hall hcut hIX hk hW2 hX1 hX2 hx1 hx2 hi hkl hkl2
    gi_wp2_with (refine ⟨trivial, ?_⟩; gi_at_call 84; refine (callsIn_wide.2 (HIR.out _)).mono ?_; rintro e W4 ⟨rfl, h4⟩; obtain rfl := h4)
    refine wpIn_wide.2 ?_
    go_region
    rw [<- HX2.out, <- HX1.out, <- HW2.out]
    gi_wp2
    refine hQ.mono ?_;rintro e W3 (⟨rfl, hJ3, hz3, hb3⟩ | ⟨rfl, hJx3⟩)
    ·have hbx3 : Boxed W3 BS 9 (.string X2) := hb3.trans HBX2.out;have HI3 : Hid (LnI s.data.toList BS J W3 X2 (pre ++ [(⟨X1, hx1l⟩ : Pc)])) := ⟨hbx3, HALL.out, (by omega), hJ3⟩;have hm3 := restN_box hbx3;clear hbx3 hJ3 hz3 hb3 hQ hy
     gi_wp2
     go_roundw
     case rel => first | exact ⟨⟨trivial, trivial⟩, _, _, HI3.out⟩ | exact ⟨⟨rfl, rfl⟩, _, _, HI3.out⟩ | exact ⟨trivial, _, _, HI3.out⟩ | exact ⟨_, _, HI3.out⟩
     case measure => rw [hm3, restN_cell hc]; omega
    ·gi_wp2
     refine bodyPost_ret (results_none rfl _ _ _) rfl ?_;exact ⟨⟨_, rfl⟩, .inr ⟨pre ++ [⟨X1, hx1l⟩], ⟨_, HALL.out⟩, hJx3⟩⟩
theorem lines_any (s : ByteArray) (w : World) : Calls Tryz.prog 46 #[.string s] w fun e w' => e = .returned (.func (.func 83) #[] #[.pointer (some ⟨w.heap.size, 0, none⟩)]) /\ w' = w.alloc (.cells #[.string s] 9) := by
 go_enter Tryz.func46, Tryz.ntmps46
 go_wp2;go_ret;exact ⟨rfl, rfl⟩
end Go.Proofs.YtcnfcililiehlaaGreatDoor.Ch
namespace Go.Proofs.YtcnfcililiehlaaGreatDoor.Ch
open Go.RowKit
def foldC : CH -> List (List UInt8) -> Option CH
 | c, [] => some c
 | c, l :: r => match lineC c l with
  | none => none
  | some c' => foldC c' r
theorem foldC_append {c c' : CH} {a b : List (List UInt8)} (h : foldC c a = some c') : foldC c (a ++ b) = foldC c' b := by
 induction a generalizing c with
 | nil => cases h; rfl
 | cons l r ih =>
  show (match lineC c l with | none => none | some c' => foldC c' (r ++ b)) = _;unfold foldC at h;cases hl : lineC c l with
  | none => rw [hl] at h; cases h
  | some c2 => rw [hl] at h; exact ih h
theorem runC_split {c c' : CH} {a b : List (List UInt8)} {k : Nat} (h : foldC c a = some c') : runC c k (a ++ b) = runC c' (k + a.length) b := by
 induction a generalizing c k with
 | nil => cases h; rfl
 | cons l r ih =>
  show (match lineC c l with | none => (noCH, k, 1) | some c' => runC c' (k + 1) (r ++ b)) = _;unfold foldC at h;cases hl : lineC c l with
  | none => rw [hl] at h; cases h
  | some c2 =>
   rw [hl] at h;have := ih (k := k + 1) h;rw [List.length_cons, show k + (r.length + 1) = k + 1 + r.length by omega];exact this
theorem Bdd.mono {n m : Nat} {c : CH} (h : Bdd n c) (hm : n <= m) : Bdd m c := ⟨by have := h.es; omega, by have := h.vs; omega, by have := h.ss; omega, by have := h.ts; omega, h.dp⟩
theorem varS_bdd {n : Nat} {c c' : CH} {v : VM} (hB : Bdd n c) (h : varS c v = some c') : Bdd (n + 1) c' := by
 unfold varS at h; split at h
 ·injection h with h; subst h
  have h1 := hB.mono (Nat.le_succ n);exact ⟨h1.es, by simp; exact hB.vs, h1.ss, h1.ts, hB.dp⟩
 ·cases h
theorem boundS_bdd {n : Nat} {c c' : CH} {r : List (List UInt8)} {ik ia ib : Int} (hB : Bdd n c) (h : boundS c r ik ia ib = some c') : Bdd (n + 1) c' := by
 unfold boundS at h; split at h
 ·exact varS_bdd hB h
 ·cases h
theorem lastS_bdd {n : Nat} {c c' : CH} {f : SC -> Option SC} (hB : Bdd n c) (hf : ∀ s s', f s = some s' -> s'.dp = s.dp) (h : lastS c f = some c') : Bdd (n + 1) c' := by
 unfold lastS at h; split at h
 ·cases h
 ·rename_i s hs
  split at h
  ·cases h
  ·rename_i s' hs'
   injection h with h; subst h
   have h1 := hB.mono (Nat.le_succ n);have hmem := List.mem_of_getLast? hs;have hpos := List.length_pos_of_mem hmem;refine ⟨h1.es, h1.vs, ?_, h1.ts, fun x hx => ?_⟩
   ·have := h1.ss; simp; omega
   ·rcases List.mem_append.1 hx with hx | hx
    ·exact hB.dp x (List.dropLast_subset _ hx)
    ·rw [List.mem_singleton] at hx; subst hx; rw [hf _ _ hs']; exact hB.dp s hmem
theorem step_bdd {f : List UInt8} {g : StepS} (hf : stepF f = some g) {n : Nat} {c c' : CH} {d : Nat} {r : List (List UInt8)} (hB : Bdd n c) (hd : d <= 6000) (h : g c d r = some c') : Bdd (n + 1) c' := by
 have h1 := hB.mono (Nat.le_succ n);have hst : ∀ k m, stateS k m c d r = some c' -> Bdd (n + 1) c' := by
  intro k m h;unfold stateS at h; split at h
  ·injection h with h; subst h
   refine ⟨h1.es, h1.vs, by simp; exact hB.ss, h1.ts, fun x hx => ?_⟩;rcases List.mem_append.1 hx with hx | hx
   ·exact hB.dp x hx
   ·rw [List.mem_singleton] at hx; subst hx; exact ⟨by simp, by simp; omega⟩
  ·cases h
 have hm := findS_mem hf;simp only [stepT, List.mem_cons, Prod.mk.injEq, List.not_mem_nil, or_false] at hm;rcases hm with ⟨_, rfl⟩ | ⟨_, rfl⟩ | ⟨_, rfl⟩ | ⟨_, rfl⟩ | ⟨_, rfl⟩ | ⟨_, rfl⟩ | ⟨_, rfl⟩ | ⟨_, rfl⟩ | ⟨_, rfl⟩ | ⟨_, rfl⟩ | ⟨_, rfl⟩ | ⟨_, rfl⟩ | ⟨_, rfl⟩ | ⟨_, rfl⟩
 ·unfold nameS at h; split at h
  ·injection h with h; subst h; exact ⟨h1.es, h1.vs, h1.ss, h1.ts, hB.dp⟩
  ·cases h
 ·unfold eventS at h; split at h
  ·injection h with h; subst h; exact ⟨by simp; exact hB.es, h1.vs, h1.ss, h1.ts, hB.dp⟩
  ·cases h
 ·unfold intS at h; split at h
  ·exact boundS_bdd hB h
  ·cases h
 ·unfold boolS at h; split at h
  ·exact varS_bdd hB h
  ·cases h
 ·unfold pointS at h; split at h
  ·split at h
   ·exact boundS_bdd hB h
   ·cases h
  ·cases h
 ·exact hst _ _ h
 ·exact hst _ _ h
 ·exact hst _ _ h
 ·exact hst _ _ h
 ·exact hst _ _ h
 ·exact hst _ _ h
 ·unfold entryS at h; split at h
  ·exact lastS_bdd hB (fun s s' hs => by split at hs; injection hs with hs; subst hs; rfl; cases hs) h
  ·cases h
 ·unfold exitS at h; split at h
  ·exact lastS_bdd hB (fun s s' hs => by split at hs; injection hs with hs; subst hs; rfl; cases hs) h
  ·cases h
 ·unfold onS at h; split at h
  ·injection h with h; subst h; exact ⟨h1.es, h1.vs, h1.ss, by simp; exact hB.ts, hB.dp⟩
  ·cases h
theorem depthL_le (l : List UInt8) : depthL l <= l.length := by
 induction l with
 | nil => simp [depthL]
 | cons c r ih => unfold depthL; split <;> simp <;> omega
structure ChO (B : Nat) (w : World) (c : CH) (eV vV sV tV : Value) (sp : List SP) (tp : List TP) : Prop where
 es : w.ownsRow B 9 1 eV c.es.length (strsV c.es)
 vs : w.ownsRow B 86 7 vV c.vs.length (flatV c.vs)
 ssE : sp.map Prod.fst = c.ss
 ss : w.ownsRow B 50 6 sV sp.length (flatS sp)
 tsE : tp.map Prod.fst = c.ts
 ts : w.ownsRow B 121 5 tV tp.length (flatT tp)
 sd : ∀ p ∈ sp, BlkO B w p.2.1 p.1.en /\ BlkO B w p.2.2 p.1.ex
 td : ∀ p ∈ tp, GdO B w p.2.1 p.1.gd /\ BlkO B w p.2.2 p.1.ac
theorem OwnCh.cho {b B : Nat} {t : TypeId} {w : World} {c : CH} {eV vV sV tV : Value} {sp : List SP} {tp : List TP} (h : OwnCh b B t w c eV vV sV tV sp tp) : ChO B w c eV vV sV tV sp tp := ⟨h.es, h.vs, h.ssE, h.ss, h.tsE, h.ts, h.sd, h.td⟩
theorem ChO.zero (B : Nat) (w : World) : ChO B w noCH (.slice none 0 0) (.slice none 0 0) (.slice none 0 0) (.slice none 0 0) [] [] :=
 ⟨World.ownsRow_nil _ _ _ _, World.ownsRow_nil _ _ _ _, rfl, World.ownsRow_nil _ _ _ _, rfl, World.ownsRow_nil _ _ _ _, fun p hp => (by cases hp), fun p hp => (by cases hp)⟩
theorem row_bear {X Y : World} {B BS : Nat} {r : Option Nat} (hg : X.grownBy Y r) (hr : ∀ k, r = some k -> k = BS \/ (B <= k /\ ∃ o : Obj, X.heap[k]? = some o /\ o.isCells = false)) (hBS : BS < B) {e : TypeId} {size n : Nat} {v : Value} {xs : List Value} (h : X.ownsRow B e size v n xs) : Y.ownsRow B e size v n xs := by
 refine h.kept hg ?_;rcases h.2 with ⟨rfl, _⟩ | ⟨g, cap, cur, rfl, h1, h2, _⟩
 ·exact Or.inl rfl
 ·refine Or.inr fun e' => ?_
  rcases hr g (by simpa [Value.ownBlock] using e'.symm) with h3 | ⟨_, o, h3, h4⟩
  ·omega
  ·rw [h2] at h3; cases h3; cases h4
theorem blk_bear {X Y : World} {B BS : Nat} {r : Option Nat} (hg : X.grownBy Y r) (hr : ∀ k, r = some k -> k = BS \/ (B <= k /\ ∃ o : Obj, X.heap[k]? = some o /\ o.isCells = false)) (hBS : BS < B) {v : Value} {l : List AM} (h : BlkO B X v l) : BlkO B Y v l := by
 obtain ⟨al, h1, h2, h3⟩ := h;exact ⟨al, h1, row_bear hg hr hBS h2, fun p hp => ⟨row_bear hg hr hBS (h3 p hp).own, (h3 p hp).len, (h3 p hp).names, (h3 p hp).name⟩⟩
theorem OwnCh.bear {b B BS : Nat} {t : TypeId} {X Y : World} {c : CH} {eV vV sV tV : Value} {sp : List SP} {tp : List TP} {r : Option Nat} (h : OwnCh b B t X c eV vV sV tV sp tp) (hg : X.grownBy Y r) (hr : ∀ k, r = some k -> k = BS \/ (B <= k /\ ∃ o : Obj, X.heap[k]? = some o /\ o.isCells = false)) (hBS : BS < B) (hne : BS ≠ b) : OwnCh b B t Y c eV vV sV tV sp tp := by
 refine ⟨(hg.block b (lt_of_heap h.box) (fun e => ?_)).trans h.box, h.lt, Nat.le_trans h.le hg.size, row_bear hg hr hBS h.es, row_bear hg hr hBS h.vs, h.ssE, row_bear hg hr hBS h.ss, h.tsE, row_bear hg hr hBS h.ts,
  fun p hp => ⟨blk_bear hg hr hBS (h.sd p hp).1, blk_bear hg hr hBS (h.sd p hp).2⟩, fun p hp => ⟨⟨row_bear hg hr hBS (h.td p hp).1.own, (h.td p hp).1.len, (h.td p hp).1.names⟩, blk_bear hg hr hBS (h.td p hp).2⟩⟩
 rcases hr b e.symm with h3 | ⟨h3, _⟩
 ·exact hne h3.symm
 ·have := h.lt; omega
def trL (p : Pc) : List UInt8 := Lib.trimSuffix (pcL p) [10]
structure PcI (w Ws : World) (b B7 BS B : Nat) (pre : List Pc) (c : CH) (W : World) : Prop where
 fold : foldC noCH (pre.map trL) = some c
 bdd : Bdd pre.length c
 nmd : (pre = [] /\ c = noCH) \/ (pre ≠ [] /\ c.nm ≠ [])
 rdr : Rdr b B 67 W c
 num : Boxed W B7 3 (.int .i64 ((pre.length : Int) + 1))
 keep : ∀ k, k < B -> k ≠ b -> k ≠ B7 -> k ≠ BS -> W.heap[k]? = Ws.heap[k]?
 below : Below w.heap.size w W
theorem PcI.bear {w Ws : World} {b B7 BS B : Nat} {pre : List Pc} {c : CH} {X Y : World} {r : Option Nat} (h : PcI w Ws b B7 BS B pre c X) (h1 : BS ≠ b) (h2 : BS ≠ B7) (h3 : BS < B) (h4 : B7 < B) (h5 : w.heap.size <= BS) (_hB : w.heap.size <= B) (hg : X.grownBy Y r) (hr : ∀ k, r = some k -> k = BS \/ (B <= k /\ ∃ o : Obj, X.heap[k]? = some o /\ o.isCells = false)) : PcI w Ws b B7 BS B pre c Y := by
 obtain ⟨_, _, _, _, _, _, hO⟩ := h.rdr;have ne : ∀ k, k < B -> k ≠ BS -> some k ≠ r := fun k hk hne e => by
  rcases hr k e.symm with e1 | ⟨e1, _⟩
  ·exact hne e1
  ·omega
 refine ⟨h.fold, h.bdd, h.nmd, ⟨_, _, _, _, _, _, hO.bear hg hr h3 h1⟩, h.num.kept hg (ne B7 h4 (Ne.symm h2)), fun k hk k1 k2 k3 => (hg.block k (Nat.lt_of_lt_of_le hk hO.le) (ne k hk k3)).trans (h.keep k hk k1 k2 k3), h.below.grown hg h.below.size (fun k hk => ?_)⟩;rcases hr k hk with rfl | ⟨e1, _⟩
 ·exact h5
 ·omega
end Go.Proofs.YtcnfcililiehlaaGreatDoor.Ch
