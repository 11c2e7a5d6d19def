/- Own texts, joined: Ue, Uq, Uf, Ug, Uh. -/
import Derived.Test.YtcnfcililiehlaaGreatDoorR7
import Derived.Test.YtcnfcililiehlaaGreatDoorR11
import Derived.RangeFuncNested
import Derived.RangeFuncBound
import Derived.RangeFuncCalls
import Derived.RangeFuncLeaves
import Derived.RangeFuncBox
import Derived.Shelf.Abstract
import Derived.Shelf.RegionOpen
import Derived.WalkKit
import Derived.OwnWalkIn
import Derived.TacticsInMore
import Derived.LoopNIn
import Derived.LoopIn
import Derived.Sort.BigQuietIn
import Derived.Test.YtcnfcililiehlaaGreatDoorProg
namespace Go.Proofs.YtcnfcililiehlaaGreatDoor.Tr
open Go.RowKit Go.Shelf
attribute [local go_sem] Oper.semAt_some
def KeepP (keep : Nat -> Prop) (W W' : World) : Prop := W.heap.size <= W'.heap.size /\ ∀ k, keep k -> W'.heap[k]? = W.heap[k]?
theorem KeepP.refl (keep : Nat -> Prop) (W : World) : KeepP keep W W := ⟨Nat.le_refl _, fun _ _ => rfl⟩
theorem KeepP.trans {keep : Nat -> Prop} {A B C : World} (h : KeepP keep A B) (h' : KeepP keep B C) : KeepP keep A C := ⟨Nat.le_trans h.1 h'.1, fun k hk => (h'.2 k hk).trans (h.2 k hk)⟩
theorem KeepP.drewN {keep : Nat -> Prop} {A B : World} (h : KeepP keep A B) (n : Nat) : KeepP keep A (B.drewN n) := h
theorem cell_box {W : World} {B : Nat} {t : TypeId} {v : Value} (h : Boxed W B t v) : W.cell? ⟨B, 0, none⟩ = some v := h.cell
def keepC (B0 BL BI : Nat) (k : Nat) : Prop := k < B0 \/ k = BL \/ k = BI
structure ItI {N : Nat} (d : Nat -> Int) (i B0 BL BI : Nat) (J : List { k : Nat // k < N } -> World -> Prop) (W wr : World) (k : Nat) (pre : List { k : Nat // k < N }) : Prop where
 come : pre.map (·.1) = kids d k i
 gt : i < k
 le : k <= en d N i
 par : k < en d N i -> par d k = (i : Int)
 j : J pre wr
 keep : KeepP (keepC B0 BL BI) W wr
theorem kids_len (d : Nat -> Int) (m i : Nat) : (kids d m i).length <= m := by
 have := List.length_filter_le (kidB d i) (List.range m);rw [List.length_range] at this;exact this
theorem kids_prefix {d : Nat -> Int} {m m' i : Nat} (h : m <= m') : kids d m i <+: kids d m' i := by
 unfold kids;obtain ⟨g, rfl⟩ : ∃ g, m' = m + g := ⟨m' - m, by omega⟩
 rw [List.range_add, List.filter_append];exact List.prefix_append _ _
theorem quiet_on {P : Program} {f : FuncId} {args : Array Value} {w : World} {n : Nat} {v : Value} (h : Calls P f args (w.drewN n) fun e w' => e = .returned v /\ ∃ r, w' = (w.drewN n).drewN r) :
 Calls P f args (w.drewN n) fun e w'' => e = .returned v /\ ∃ m, w'' = w.drewN m := h.mono fun _ _ ⟨he, r, hr⟩ => ⟨he, n + r, by rw [hr, World.drewN_drewN]⟩
set_option maxRecDepth 100000 in
set_option maxHeartbeats 4000000 in
theorem children1_in (n : Nat) (hn : 1 <= n) (l BL BI : Nat) (v : Value) (xs : List SM) (i : Nat) (hi : i < xs.length) (hl : xs.length <= 4611686018427387904) (hN : Nst (dp xs) xs.length) (w0 : World) (hR : RdT w0 v xs)
 (J Jx : List { k : Nat // k < xs.length } -> World -> Prop) (hJ : ∀ pre W m, J pre W -> J pre (World.drewN W m))
 (hY : ∀ pre x W, J pre W -> pre.length < xs.length -> YieldAt Fence.wide (n - 1) Tryz.prog l #[.int .i64 x.1] W fun e W' =>
  (e = .returned (.bool true) /\ J (pre ++ [x]) W' /\ KeepP (keepC w0.heap.size BL BI) W W') \/ (e = .returned (.bool false) /\ Jx (pre ++ [x]) W'))
 (W : World) (hW : KeepP (fun k => k < w0.heap.size) w0 W) (hBL : Boxed W BL 24 v) (hBI : Boxed W BI 3 (.int .i64 i)) (h0 : J [] W) :
 CallsIn Fence.wide n Tryz.prog 142 #[.func (.yield l) #[] #[], .pointer (some ⟨BI, 0, none⟩), .pointer (some ⟨BL, 0, none⟩)] W fun e W' => (∃ v, e = .returned v) /\
  ((∃ ys, ys.map (·.1) = kids (dp xs) xs.length i /\ J ys W') \/ (∃ pre, pre.map (·.1) <+: kids (dp xs) xs.length i /\ Jx pre W')) := by
 have HRD : Hid (∀ wr m, KeepP (keepC w0.heap.size BL BI) W wr -> RdT (wr.drewN m) v xs) := fun wr m h =>
  Inn.same hR (Nat.le_trans hW.1 h.1) (fun k hk => (h.2 k (Or.inl hk)).trans (hW.2 k hk))
 have HBL : Hid (∀ wr, KeepP (keepC w0.heap.size BL BI) W wr -> wr.cell? ⟨BL, 0, none⟩ = some v) := fun wr h => cell_box (show Boxed wr BL 24 v from (h.2 BL (Or.inr (Or.inl rfl))).trans hBL)
 have HE := Lib.hid (fun k W (hk : k < xs.length) h => end_any v xs k W h hk hl);have HN := Lib.hid hN;have hcl := HBL.out W (KeepP.refl _ _);have hci := cell_box hBI;obtain ⟨e1, e2, _, _⟩ := en_spec (dp xs) hi;have HY := Lib.hid hY; have HJ := Lib.hid hJ; have H0 := Lib.hid h0;clear hR hW hBL hBI hN hY hJ h0;refine callsIn_of_wp Tryz.func142 rfl trivial ?_ rfl;simp only [Tryz.ntmps142, List.size_toArray, List.length_cons, List.length_nil, Nat.reduceAdd, Nat.reduceSub, Array.replicate_succ, Array.replicate_zero, List.push_toArray, List.append_toArray, List.nil_append, List.cons_append]
 gi_wp2
 refine wpIn_wide.2 ?_
 go_quiet ((go_at_call 143; exact quiet_on (HE.out i _ hi (HRD.out _ _ (KeepP.refl _ _)))))
 gi_wp2
 gi_loopw [4] (fun x4 wr => ∃ (k : Nat) (pre : List { k : Nat // k < xs.length }), x4 = .int .i64 k /\ ItI (dp xs) i w0.heap.size BL BI J W wr k pre) (fun x _ => en (dp xs) xs.length i - (intOf x).toNat)
 case atStart =>
  exact ⟨i + 1, [], by go_num, by rw [HN.out.kids_first hi]; rfl, by omega, e1, fun h => HN.out.first_kid hi h, HJ.out _ _ _ H0.out, KeepP.refl _ _⟩
 case round =>
  obtain ⟨k, pre, rfl, hI⟩ := hrel;by_cases hlt : k < en (dp xs) xs.length i
  ·have hkn : k < xs.length := by omega
   obtain ⟨f1, f2, f3, f4⟩ := HN.out.next_kid hi hlt (hI.par hlt);obtain ⟨fn, tmps, assign, body, hy, hQ⟩ := HY.out pre ⟨k, hkn⟩ wr hI.j (by have h1 := congrArg List.length hI.come; rw [List.length_map] at h1; have := kids_len (dp xs) k i; omega)
   dsimp only at hy
   have HI := Lib.hid hI;have HF := Lib.hid (And.intro f1 (And.intro f2 (And.intro f3 f4)));clear hI f1 f2 f3 f4
   gi_wp2
   refine hQ.mono ?_;rintro e W3 (⟨rfl, hJ3, hk3⟩ | ⟨rfl, hJx3⟩)
   ·have hkp := HI.out.keep.trans hk3;have hc3 := HBL.out W3 hkp;have HKP := Lib.hid hkp; have HJ3 := Lib.hid hJ3;clear hkp hk3 hJ3 hQ hy
    gi_wp2_with (refine ⟨trivial, ?_⟩; gi_at_call 143; refine (callsIn_wide.2 (HE.out k _ hkn (HRD.out W3 0 HKP.out))).mono ?_; rintro e W4 ⟨rfl, q, rfl⟩)
    go_roundw
    case rel =>
     refine ⟨_, pre ++ [⟨k, hkn⟩], rfl, ?_, ?_, HF.out.2.1, HF.out.2.2.2, HJ.out _ _ _ HJ3.out, HKP.out⟩
     ·rw [List.map_append, HI.out.come, HF.out.2.2.1]; rfl
     ·have := HI.out.gt; have := HF.out.1; omega
    case measure =>
     have := HF.out.1; have := HF.out.2.1;simp [intOf] <;> omega
   ·gi_wp2
    refine bodyPost_ret (results_none rfl _ _ _) rfl ?_;refine ⟨⟨_, rfl⟩, .inr ⟨pre ++ [⟨k, hkn⟩], ?_, hJx3⟩⟩;rw [List.map_append, HI.out.come, HN.out.kids_end hi];have e : kids (dp xs) k i ++ [k] = kids (dp xs) (en (dp xs) xs.length k) i := HF.out.2.2.1.symm;show kids (dp xs) k i ++ [k] <+: _;rw [e];exact kids_prefix HF.out.2.1
  ·obtain rfl : k = en (dp xs) xs.length i := by have := hI.le; omega
   gi_wp2
   go_end0
   exact ⟨⟨_, rfl⟩, .inl ⟨_, by rw [hI.come, HN.out.kids_end hi], hI.j⟩⟩
end Go.Proofs.YtcnfcililiehlaaGreatDoor.Tr
namespace Go.Proofs.YtcnfcililiehlaaGreatDoor
open Go
def plainB (ops : Array Oper) : Bool := ops.all fun o => match o.op with | .defer _ => false | _ => true
theorem plainB_at {ops : Array Oper} (h : plainB ops = true) {i : Nat} {o : Oper} (ho : ops[i]? = some o) (c : Call) : o.op ≠ .defer c := by
 obtain ⟨hi, e⟩ := Array.getElem?_eq_some_iff.1 ho;have := (Array.all_eq_true.1 h) i hi;rw [e] at this;intro hc;rw [hc] at this;cases this
section
variable {F : Fence} {n : Nat} {P : Program} {ops : Array Oper} {C : World -> Prop} {md : Region.Mode}
theorem oper_round {o : Oper} {a : Act} {K : Act -> Prop} {K' : Act -> World -> Prop} {Q' : Exit -> Act -> World -> Prop} {w : World} (hd : ∀ c, o.op ≠ .defer c) (hw : C w) (h : ∀ a w', C w' -> K a -> K' a w')
 (ha : o.askedIn F P a C) (hh : o.quietIn F n P a C K) : o.wpIn F n P a w K' Q' := by
 obtain ⟨v, h1, h2⟩ := hh;have h3 : Oper.quietUponIn F n P C w v ((execOp a.eval o).run P w) := h1 w hw;refine ⟨ha w hw, ?_⟩;rw [Oper.semAt_eq _ _ _ hd];generalize (execOp a.eval o).run P w = r at *
 cases r with
 | halt x w' => simp only [Oper.quietUponIn] at h3
 | ok x w' =>
  cases x <;> simp only [Oper.quietUponIn] at h3 <;> simp only [Oper.uponIn]
  case value u => rw [h3.1, h3.2]; exact h _ _ hw h2
  case skip => rw [h3.1, <- h3.2]; exact h _ _ hw h2
  case enter f args =>
   rw [h3.1];exact ⟨h3.2.1, h3.2.2.mono fun e w'' he => by obtain ⟨he, hw''⟩ := he; subst he; exact h _ _ hw'' h2⟩
theorem op_round (hp : plainB ops = true) {i : Nat} {a : Act} {K : Act -> Prop} {K' : Act -> World -> Prop} {Q' : Exit -> Act -> World -> Prop} {w : World} (hC : C w) (h : ∀ a w', C w' -> K a -> K' a w')
 (hh : qOpIn F n P ops C i K a) : wpOpIn F n P ops Q' i K' a w := by
 unfold qOpIn at hh;unfold wpOpIn;cases ho : ops[i]? with
 | none => simp only [ho] at hh ⊢; exact h _ _ hC hh
 | some o =>
  simp only [ho] at hh ⊢;by_cases hw : Region.wanted o (yielded ops a.tmps) = true
  ·simp only [hw, if_true] at hh ⊢; exact oper_round (plainB_at hp ho) hC h hh.1 hh.2
  ·simp only [hw] at hh ⊢; exact ⟨hh.1 w hC, h _ _ hC hh.2⟩
theorem any_round (hp : plainB ops = true) {Q : Act -> Prop} {Q' : Exit -> Act -> World -> Prop} (hQ : ∀ a w, C w -> Q a -> Q' .normal a w) : ∀ (fuel : Nat) (listed : Array Bool) (a : Act) (w : World), C w ->
 wpAnyQIn F n P md ops C Q fuel listed a -> wpAnyIn F n P md ops Q' fuel listed a w
 | 0, _, _, _, hw, h => ⟨h.1, hQ _ _ hw h.2⟩
 | fuel + 1, _, _, _, hw, h => ⟨fun h0 => hQ _ _ hw (h.1 h0), fun i hi => op_round hp hw (fun a' w' hw' => any_round hp hQ fuel _ a' w' hw') (h.2 i hi)⟩
theorem region_round {id : Nat} {Q : Exit -> Act -> World -> Prop} {a : Act} {w : World} {l : List Oper} (hp : plainB l.toArray = true) (hm : P.follows .mixedOrders = true) (hB : Region.lexB .any l.toArray = true)
 (h : wpQuietIn F n P l.toArray (fun w' => ∃ n, w' = w.drewN n) (fun a' => ∀ w', (∃ n, w' = w.drewN n) -> Q .normal a' w') l a) : (Code.region id l.toArray true).wpIn F n P Q a w := by
 simp only [Region.lexB, Bool.and_eq_true] at hB;refine wpIn_region_any hm (any_round hp (C := fun w' => ∃ n, w' = w.drewN n) (Q := fun a' => ∀ w', (∃ n, w' = w.drewN n) -> Q .normal a' w') (fun _ w' hw' h => h w' hw') _ _ _ _ ⟨1, rfl⟩ ?_);have := wpAnyQIn_lex (F := F) (n := n) (C := fun w' => ∃ n, w' = w.drewN n) (md := .any) hB.1 l 0 (Array.replicate l.length false) a (by simp) (by simpa using hB.2) h
 simpa using this
end
end Go.Proofs.YtcnfcililiehlaaGreatDoor
namespace Go.Proofs.YtcnfcililiehlaaGreatDoor.Tr
open Go.RowKit Go.Shelf
attribute [local go_sem] Oper.semAt_some
theorem children_any (A : Option Addr) (n c : Nat) (i : Nat) (w : World) : Calls Tryz.prog 91 #[.slice A n c, .int .i64 i] w fun e w' =>
 e = .returned (.func (.func 142) #[] #[.pointer (some ⟨w.heap.size + 1, 0, none⟩), .pointer (some ⟨w.heap.size, 0, none⟩)]) /\ w' = (w.alloc (.cells #[.slice A n c] 24)).alloc (.cells #[.int .i64 i] 3) := by
 go_enter Tryz.func91, Tryz.ntmps91
 go_wp2;go_ret;exact ⟨rfl, rfl⟩
abbrev Pl (n : Nat) := { k : Nat // k < n }
theorem children_stops (v : Value) (xs : List SM) (i : Nat) (hi : i < xs.length) (hl : xs.length <= 4611686018427387904) (hN : Nst (dp xs) xs.length) (w0 : World) (hR : RdT w0 v xs) (BL BI : Nat) (w : World) (hW : Below w0.heap.size w0 w) (hBL : Boxed w BL 24 v) (hBI : Boxed w BI 3 (.int .i64 i)) :
 SeqStopsK Fence.wide 2 Tryz.prog 142 #[.pointer (some ⟨BI, 0, none⟩), .pointer (some ⟨BL, 0, none⟩)] (fun x : Pl xs.length => #[Value.int .i64 x.1]) (KeepP (keepC w0.heap.size BL BI))
  (fun ys => ys.map (·.1) = kids (dp xs) xs.length i) (fun pre => pre.map (·.1) <+: kids (dp xs) xs.length i) xs.length w := fun l J Jx W hWW hJ _ hY h0 =>
 children1_in 2 (by omega) l BL BI v xs i hi hl hN w0 hR J Jx
  (fun pre W m h => hJ pre W (World.drewN W m) none h (grown_of_below (below_drewN (Below.refl _ _) m) none) (fun r e => by cases e)) hY W
  ⟨Nat.le_trans hW.size hWW.size, fun k hk => (hWW.block k (by have := hW.size; omega)).trans (hW.block k hk)⟩
  ((hWW.block BL hBL.lt).trans hBL) ((hWW.block BI hBI.lt).trans hBI) h0
def FilC (d kd : Nat -> Int) (n i : Nat) : Prop := (∀ k ∈ kids d n i, mayC (kd i) (kd k)) /\ ((∃ k ∈ kids d n i, ¬ pastP (kd k)) ↔ parentP (kd i))
noncomputable instance {d kd : Nat -> Int} {n i : Nat} : Decidable (FilC d kd n i) := Classical.propDecidable _
def anyB {n : Nat} (kd : Nat -> Int) (l : List (Pl n)) : Bool := l.any fun k => !decide (pastP (kd k.1))
theorem anyB_snoc {n : Nat} (kd : Nat -> Int) (l : List (Pl n)) (x : Pl n) : anyB kd (l ++ [x]) = (anyB kd l || !decide (pastP (kd x.1))) := by simp [anyB]
def NormP (p : Act -> World -> Prop) : Exit -> Act -> World -> Prop
 | .normal, a, w => p a w
 | _, _, _ => False
structure FilI (w : World) (v : Value) (i : Nat) (r f : Bool) (W : World) : Prop where
 bl : Boxed W w.heap.size 24 v
 bi : Boxed W (w.heap.size + 1) 3 (.int .i64 i)
 br : Boxed W (w.heap.size + 1 + 1) 4 (.bool r)
 bf : Boxed W (w.heap.size + 1 + 1 + 1) 4 (.bool f)
 below : Below w.heap.size w W
theorem FilI.grown {w : World} {v : Value} {i : Nat} {r f : Bool} {W W' : World} {row : Option Nat} (h : FilI w v i r f W) (hg : W.grownBy W' row) (hr : ∀ q, row = some q -> w.heap.size + 3 < q) : FilI w v i r f W' := by
 have hne : ∀ k, k <= w.heap.size + 3 -> some k ≠ row := fun k hk e => by have := hr k e.symm; omega
 exact ⟨h.bl.kept hg (hne _ (by omega)), h.bi.kept hg (hne _ (by omega)), h.br.kept hg (hne _ (by omega)), h.bf.kept hg (hne _ (by omega)), h.below.grown hg h.below.size (fun k hk => by have := hr k hk; omega)⟩
theorem FilI.drewN {w : World} {v : Value} {i : Nat} {r f : Bool} {W : World} (h : FilI w v i r f W) (m : Nat) : FilI w v i r f (W.drewN m) := ⟨h.bl, h.bi, h.br, h.bf, below_drewN h.below m⟩
theorem FilI.setR {w : World} {v : Value} {i : Nat} {r f : Bool} {W : World} (h : FilI w v i r f W) (u : Bool) : FilI w v i u f (W.setCell ⟨w.heap.size + 1 + 1, 0, none⟩ (.bool u)) :=
 ⟨h.bl.other (by omega) _, h.bi.other (by omega) _, h.br.set _, h.bf.other (by omega) _, h.below.setCell (by simp; omega) _⟩
theorem FilI.setF {w : World} {v : Value} {i : Nat} {r f : Bool} {W : World} (h : FilI w v i r f W) (u : Bool) : FilI w v i r u (W.setCell ⟨w.heap.size + 1 + 1 + 1, 0, none⟩ (.bool u)) :=
 ⟨h.bl.other (by omega) _, h.bi.other (by omega) _, h.br.other (by omega) _, h.bf.set _, h.below.setCell (by simp; omega) _⟩
theorem KeepP.setCell {keep : Nat -> Prop} {A B : World} {b : Nat} (h : KeepP keep A B) (hb : ¬ keep b) (u : Value) : KeepP keep A (B.setCell ⟨b, 0, none⟩ u) :=
 h.trans ⟨(grownBy_setCell' B b u).size, fun k hk => (Below.heap_setCell _ _ _ k (fun e => hb (by have e : k = b := e; subst e; exact hk)))⟩
theorem keepC_not {B0 k : Nat} (h1 : B0 <= k) (h2 : k < B0 + 4) : ¬ keepC B0 (B0 + 1 + 1 + 1 + 1) (B0 + 1 + 1 + 1 + 1 + 1) k := by
 rintro (h | h | h) <;> omega
theorem others_drewN (W : World) (m : Nat) : KeepsOthers W (W.drewN m) := ⟨Nat.le_refl _, fun _ _ h _ => h⟩
theorem filC_true {d kd : Nat -> Int} {n i : Nat} {ys : List (Pl n)} (h : ys.map (·.1) = kids d n i) (hm : ∀ k ∈ ys, mayC (kd i) (kd k.1)) : decide (FilC d kd n i) = (anyB kd ys == decide (parentP (kd i))) := by
 have h1 : ∀ k ∈ kids d n i, mayC (kd i) (kd k) := by
  intro k hk;rw [<- h] at hk;obtain ⟨y, hy, rfl⟩ := List.mem_map.1 hk;exact hm y hy
 have h2 : anyB kd ys = true ↔ ∃ k ∈ kids d n i, ¬ pastP (kd k) := by
  rw [<- h];unfold anyB;simp
 by_cases hp : parentP (kd i)
 ·rw [decide_eq_true hp];by_cases ha : anyB kd ys = true
  ·rw [ha]; exact decide_eq_true ⟨h1, fun _ => hp, fun _ => h2.1 ha⟩
  ·rw [Bool.eq_false_iff.2 ha]; exact decide_eq_false (fun hf => ha (h2.2 (hf.2.2 hp)))
 ·rw [decide_eq_false hp];by_cases ha : anyB kd ys = true
  ·rw [ha]; exact decide_eq_false (fun hf => hp (hf.2.1 (h2.1 ha)))
  ·rw [Bool.eq_false_iff.2 ha]; exact decide_eq_true ⟨h1, fun hx => absurd (h2.2 hx) ha, fun hx => absurd hx hp⟩
theorem filC_false {d kd : Nat -> Int} {n i : Nat} {pre : List (Pl n)} (h : pre.map (·.1) <+: kids d n i) (hm : ∃ k ∈ pre, ¬ mayC (kd i) (kd k.1)) : decide (FilC d kd n i) = false := by
 refine decide_eq_false fun hf => ?_
 obtain ⟨k, hk, hn⟩ := hm;exact hn (hf.1 k.1 (h.subset (List.mem_map.2 ⟨k, hk, rfl⟩)))
theorem boxed_at {W : World} {B : Nat} {t : TypeId} {v : Value} (hB : W.heap.size = B) : Boxed (W.alloc (.cells #[v] t)) B t v := hB ▸ Boxed.new W t v
theorem fil_start (w : World) (v : Value) (i : Nat) {W : World} (hW : W = (((((w.alloc (.cells #[v] 24)).alloc (.cells #[.int .i64 i] 3)).alloc (.cells #[.bool false] 4)).alloc (.cells #[.bool false] 4)).alloc (.cells #[v] 24)).alloc (.cells #[.int .i64 i] 3)) :
 FilI w v i false false W /\ Boxed W (w.heap.size + 1 + 1 + 1 + 1) 24 v /\ Boxed W (w.heap.size + 1 + 1 + 1 + 1 + 1) 3 (.int .i64 i) /\ W.heap.size = w.heap.size + 6 := by
 subst hW;refine ⟨⟨(((((boxed_at rfl).alloc _).alloc _).alloc _).alloc _).alloc _, ((((boxed_at (by simp)).alloc _).alloc _).alloc _).alloc _, (((boxed_at (by simp)).alloc _).alloc _).alloc _, ((boxed_at (by simp)).alloc _).alloc _, ?_⟩, (boxed_at (by simp)).alloc _, boxed_at (by simp), by simp⟩;exact ((((((Below.refl _ _).alloc (Nat.le_refl _) _).alloc (by simp) _).alloc (by simp; omega) _).alloc (by simp; omega) _).alloc (by simp; omega) _).alloc (by simp; omega) _
set_option maxRecDepth 100000 in
set_option maxHeartbeats 8000000 in
theorem isFilled_any (v : Value) (xs : List SM) (i : Nat) (w : World) (hR : RdT w v xs) (hi : i < xs.length) (hl : xs.length <= 4611686018427387904) (hN : Nst (dp xs) xs.length) :
 Calls Tryz.prog 168 #[v, .int .i64 i] w fun e w' => e = .returned (.bool (decide (FilC (dp xs) (kp xs) xs.length i))) /\ Below w.heap.size w w' := by
 obtain ⟨A, c, rfl⟩ := hR.form;obtain ⟨b, o, rfl, hb, hc⟩ := hR.base (by omega);obtain ⟨n, hn⟩ : ∃ n, xs.length = n := ⟨_, rfl⟩
 have HC : Hid (∀ m, m < n -> w.cell? ⟨b, o + m * 6 + 1, none⟩ = some (.int .i64 (kp xs m))) := fun m hm => (hc m (by omega)).2.1
 have HS := Lib.hid (fun BL BI w' => children_stops _ xs i hi hl hN w hR BL BI w');have HCH := Lib.hid (fun W => children_any (some ⟨b, o, none⟩) xs.length c i W);have HMH := Lib.hid mayHave_any; have HIH := Lib.hid isHistory_any; have HIP := Lib.hid isParent_any;rw [hn] at hi hl HS HCH ⊢;have HNN := Lib.hid hn;clear hR hn hc hN;refine (callsIn_wide (n := 3)).1 ?_;refine callsIn_of_wp_marks Tryz.func168 rfl trivial ?_ rfl;simp only [Tryz.ntmps168, List.size_toArray, List.length_cons, List.length_nil, Nat.reduceAdd, Nat.reduceSub, Array.replicate_succ, Array.replicate_zero, List.push_toArray, List.append_toArray, List.nil_append, List.cons_append]
 gi_wp2_with (refine ⟨trivial, ?_⟩; gi_at_call 91; refine (callsIn_wide.2 (HCH.out _)).mono ?_; rintro e w1 ⟨rfl, rfl⟩)
 obtain ⟨W6, hW6⟩ : ∃ W, W = (((((w.alloc (.cells #[.slice (some ⟨b, o, none⟩) n c] 24)).alloc (.cells #[.int .i64 i] 3)).alloc (.cells #[.bool false] 4)).alloc (.cells #[.bool false] 4)).alloc (.cells #[.slice (some ⟨b, o, none⟩) n c] 24)).alloc (.cells #[.int .i64 i] 3) := ⟨_, rfl⟩
 rw [<- hW6];obtain ⟨hF6, hbl, hbi, hs6⟩ := fil_start w _ i hW6;have HS6 := Lib.hid (HS.out _ _ _ hF6.below hbl hbi);clear hW6 hbl hbi;refine wpIn_rangeFunc_ownF rfl (by decide) (gf := 142) (lb := #[.pointer (some ⟨w.heap.size + 1 + 1 + 1 + 1 + 1, 0, none⟩), .pointer (some ⟨w.heap.size + 1 + 1 + 1 + 1, 0, none⟩)]) rfl trivial (enters_of Tryz.func142 (by kernel_rfl) rfl)
  HS6.out KeepP.trans (fun W l o o' hl _ _ _ => ⟨by simp, fun k hk => World.putObj_heap_other (by rcases hk with hk | rfl | rfl <;> omega)⟩) (Below.refl _ _) (fun _ => rfl)
  (fun pre W => FilI w (.slice (some ⟨b, o, none⟩) n c) i false (anyB (kp xs) pre) W /\ ∀ k ∈ pre, mayC (kp xs i) (kp xs k.1))
  (fun cd pre W => cd = .ret /\ (∃ fb, FilI w (.slice (some ⟨b, o, none⟩) n c) i false fb W) /\ ∃ k ∈ pre, ¬ mayC (kp xs i) (kp xs k.1))
  (fun s A B row hs hg hr => ⟨hs.1.grown hg (fun q hq => by have := (hr q hq).1; omega), hs.2⟩)
  (fun cd s A B row hs hg hr => ⟨hs.1, hs.2.1.imp (fun fb h => h.grown hg (fun q hq => by have := (hr q hq).1; omega)), hs.2.2⟩)
  ⟨hF6, fun k hk => by cases hk⟩
  (fun x => { tmps := #[(.slice (some ⟨b, o, none⟩) n c), .int .i64 i, .pointer (some ⟨w.heap.size, 0, none⟩), .pointer (some ⟨w.heap.size + 1, 0, none⟩), .pointer (some ⟨w.heap.size + 1 + 1, 0, none⟩), .pointer (some ⟨w.heap.size + 1 + 1 + 1, 0, none⟩), .int .i64 x.1, (.slice (some ⟨b, o, none⟩) n c), .int .i64 i, .func (.func 142) #[] #[.pointer (some ⟨w.heap.size + 1 + 1 + 1 + 1 + 1, 0, none⟩), .pointer (some ⟨w.heap.size + 1 + 1 + 1 + 1, 0, none⟩)], .int .i64 x.1, undef, undef, undef, undef, undef, undef, undef, undef, undef, undef, undef, undef, undef, undef, undef, undef, undef, undef, undef, undef, undef, undef, undef, undef, undef, undef, undef], defers := [] }) ?assign ?body ?done ?stop
 case assign =>
  intro l x W K hK
  gi_wp2
  exact hK
 case body =>
  rintro l pre x W ⟨hF, hm⟩ hlen;have d0 := hF.bl.cell; have d1 := hF.bi.cell; have d2 := hF.br.cell; have d3 := hF.bf.cell;have f2 := hF.br.frozen; have f3 := hF.bf.frozen;have ci := (hF.below.cell (p := ⟨b, o + i * 6 + 1, none⟩) hb).trans (HC.out i hi);have cx := (hF.below.cell (p := ⟨b, o + x.1 * 6 + 1, none⟩) hb).trans (HC.out x.1 x.2);have hx := x.2;have hd : 1 <= 3 - 1 - 1 := by decide
  have hf36 : Fence.wide.fn 205 := trivial;have hmo : Tryz.prog.follows .mixedOrders = true := by kernel_rfl
  have hfi : Fence.wide.fn 206 := trivial;have HF := Lib.hid hF; have HM := Lib.hid hm;clear hF hm;by_cases hmay : mayC (kp xs i) (kp xs x.1)
  ·have HMT : Hid (∀ W, Calls Tryz.prog 205 #[.int .i64 (kp xs i), .int .i64 (kp xs x.1)] W fun e w' => e = .returned (.bool true) /\ w' = W) := fun W => (HMH.out _ _ W).mono fun _ _ h => ⟨by rw [h.1, decide_eq_true hmay], h.2.symm⟩
   have HMY := Lib.hid hmay;clear hmay
   gi_wp2
   refine region_round (by kernel_rfl) hmo (by kernel_rfl) ?_
   repeat (gi_big_quiet_step ((gi_at_call 205; exact CallsIn.quiet_of_same (CallsIn.inRound l (callsIn_wide.2 (HMT.out _))))))
   refine wpQuietIn_nil ?_;rintro w2 ⟨nq, rfl⟩;by_cases hpast : pastP (kp xs x.1)
   ·have HIT : Hid (∀ W, Calls Tryz.prog 206 #[.int .i64 (kp xs x.1)] W fun e w' => e = .returned (.bool true) /\ w' = W) := fun W => (HIH.out _ W).mono fun _ _ h => ⟨by rw [h.1, decide_eq_true hpast], h.2.symm⟩
    gi_wp2_with (gi_at_call 206; refine (CallsIn.inRound l (callsIn_wide.2 (HIT.out _))).mono ?_; rintro e w3 ⟨rfl, rfl⟩)
    refine ⟨others_drewN _ _, KeepP.refl _ _, ?_, ?_⟩
    ·rw [anyB_snoc, decide_eq_true hpast, Bool.not_true, Bool.or_false]; exact HF.out.drewN nq
    ·intro k hk;rcases List.mem_append.1 hk with hk | hk
     ·exact HM.out k hk
     ·simp at hk; subst hk; exact HMY.out
   ·have HIT : Hid (∀ W, Calls Tryz.prog 206 #[.int .i64 (kp xs x.1)] W fun e w' => e = .returned (.bool false) /\ w' = W) := fun W => (HIH.out _ W).mono fun _ _ h => ⟨by rw [h.1, decide_eq_false hpast], h.2.symm⟩
    gi_wp2_with (gi_at_call 206; refine (CallsIn.inRound l (callsIn_wide.2 (HIT.out _))).mono ?_; rintro e w3 ⟨rfl, rfl⟩)
    refine ⟨(others_drewN _ _).trans (KeepsOthers.setCell _ _ _), ((KeepP.refl _ _).drewN _).setCell (keepC_not (by omega) (by omega)) _, ?_, ?_⟩
    ·rw [anyB_snoc, decide_eq_false hpast, Bool.not_false, Bool.or_true]; exact (HF.out.drewN nq).setF true
    ·intro k hk;rcases List.mem_append.1 hk with hk | hk
     ·exact HM.out k hk
     ·simp at hk; subst hk; exact HMY.out
  ·have HMT : Hid (∀ W, Calls Tryz.prog 205 #[.int .i64 (kp xs i), .int .i64 (kp xs x.1)] W fun e w' => e = .returned (.bool false) /\ w' = W) := fun W => (HMH.out _ _ W).mono fun _ _ h => ⟨by rw [h.1, decide_eq_false hmay], h.2.symm⟩
   have HMY := Lib.hid hmay;clear hmay
   gi_wp2
   refine region_round (by kernel_rfl) hmo (by kernel_rfl) ?_
   repeat (gi_big_quiet_step ((gi_at_call 205; exact CallsIn.quiet_of_same (CallsIn.inRound l (callsIn_wide.2 (HMT.out _))))))
   refine wpQuietIn_nil ?_;rintro w2 ⟨nq, rfl⟩
   gi_wp2
   exact ⟨(others_drewN _ _).trans (KeepsOthers.setCell _ _ _), rfl, ⟨_, (HF.out.drewN nq).setR false⟩, x, by simp, HMY.out⟩
 case done =>
  rintro D ys W hD hS ⟨hF, hm⟩ hK;have d0 := hF.bl.cell; have d1 := hF.bi.cell; have d2 := hF.br.cell; have d3 := hF.bf.cell;have f2 := hF.br.frozen;have ci := (hF.below.cell (p := ⟨b, o + i * 6 + 1, none⟩) hb).trans (HC.out i hi);have hmo : Tryz.prog.follows .mixedOrders = true := by kernel_rfl
  have hv := filC_true hS hm;have HF := Lib.hid hF; have HV := Lib.hid hv;clear hF hm hv hS
  gi_wp2
  refine Code.wpIn_mono (Q := NormP fun a' w' => w' = W.drew.setCell ⟨w.heap.size + 1 + 1, 0, none⟩ (.bool (anyB (kp xs) ys == decide (parentP (kp xs i)))) /\ ∃ u30 u31 u32 u33 u34 u35 u36 u37 : Value, a' = { tmps := #[(.slice (some ⟨b, o, none⟩) n c), .int .i64 i, .pointer (some ⟨w.heap.size, 0, none⟩), .pointer (some ⟨w.heap.size + 1, 0, none⟩), .pointer (some ⟨w.heap.size + 1 + 1, 0, none⟩), .pointer (some ⟨w.heap.size + 1 + 1 + 1, 0, none⟩), undef, (.slice (some ⟨b, o, none⟩) n c), .int .i64 i, .func (.func 142) #[] #[.pointer (some ⟨w.heap.size + 1 + 1 + 1 + 1 + 1, 0, none⟩), .pointer (some ⟨w.heap.size + 1 + 1 + 1 + 1, 0, none⟩)], undef, undef, undef, undef, undef, undef, undef, undef, undef, undef, undef, undef, undef, undef, undef, undef, undef, undef, undef, undef, u30, u31, u32, u33, u34, u35, u36, u37], defers := [{ target := .collected D, args := #[] }] }) ?_ (wpIn_wide.2 ?_)
  ·intro e a' w' h;cases e with
   | normal =>
    obtain ⟨rfl, u30, u31, u32, u33, u34, u35, u36, u37, rfl⟩ := h;have hK' : (W.drew.setCell ⟨w.heap.size + 1 + 1, 0, none⟩ (.bool (anyB (kp xs) ys == decide (parentP (kp xs i))))).heap[D]? = some (.deferred (some [])) := (KeepsOthers.setCell W.drew ⟨w.heap.size + 1 + 1, 0, none⟩ _).same D _ hK rfl
    gi_wp2
    refine ⟨by simp, .inl ⟨_, _, rfl, run_takeDeferred hK', ?_⟩⟩;have hG := ((show FilI w _ i false _ W.drew from HF.out.drewN 1).setR (anyB (kp xs) ys == decide (parentP (kp xs i)))).grown (grownBy_putObj' _ D (.deferred none)) (fun q hq => by cases hq; omega);have hr := hG.br.cell;refine ⟨.bool (anyB (kp xs) ys == decide (parentP (kp xs i))), ?_, by rw [HV.out], hG.below⟩;clear hG;generalize World.putObj _ D _ = WF at hr ⊢;simp [results, Tryz.results168, go_sem, hr]
   | _ => exact h.elim
  ·go_region_with (go_at_call 207; refine (HIP.out _ _).mono ?_; rintro e w2 ⟨rfl, rfl⟩)
   all_goals exact ⟨rfl, _, _, _, _, _, _, _, _, rfl⟩
 case stop =>
  rintro D cd pre W hD hS ⟨rfl, ⟨fb, hF⟩, hm⟩ hK;have d2 := hF.br.cell;have hv := filC_false hS hm;have HF := Lib.hid hF; have HV := Lib.hid hv;clear hF hm hv hS
  gi_wp2
  refine ⟨by simp, .inl ⟨_, _, rfl, run_takeDeferred hK, ?_⟩⟩;have hG := HF.out.grown (grownBy_putObj' _ D (.deferred none)) (fun q hq => by cases hq; omega);have hr := hG.br.cell;refine ⟨.bool false, ?_, by rw [HV.out], hG.below⟩;clear hG;generalize World.putObj _ D _ = WF at hr ⊢;simp [results, Tryz.results168, go_sem, hr]
end Go.Proofs.YtcnfcililiehlaaGreatDoor.Tr
namespace Go.Proofs.YtcnfcililiehlaaGreatDoor.Tr
open Go.RowKit
def OkR (d kd : Nat -> Int) (n i : Nat) : Prop := (1 <= kd i /\ kd i <= 6) /\ FilC d kd n i /\ (d i = 0 -> kd i = 2)
theorem fil_filC {d kd : Nat -> Int} {n i : Nat} (hf : ∀ k, k < n -> 1 <= kd k /\ kd k <= 6) : Fil d kd n i ↔ FilC d kd n i := by
 have h : (∀ k ∈ kids d n i, mayP (kd i) (kd k)) ↔ ∀ k ∈ kids d n i, mayC (kd i) (kd k) := by
  constructor
  ·intro h k hk;have := h k hk; have := hf k (mem_kids.1 hk).1;unfold mayP at *; unfold mayC; omega
  ·intro h k hk;have := h k hk;unfold mayC at *; unfold mayP; omega
 unfold Fil FilC;rw [h]
theorem right_okR {d kd : Nat -> Int} {n : Nat} : RightP d kd n ↔ 1 <= n /\ n <= 40 /\ Nst d n /\ (∀ i, i < n -> OkR d kd n i) /\ regs d n <= 4 := by
 constructor
 ·intro h;exact ⟨h.pos, h.le, h.nst, fun i hi => ⟨(h.fine i hi).kind, (fil_filC (fun k hk => (h.fine k hk).kind)).1 (h.fil i hi), (h.fine i hi).region⟩, h.regs⟩
 ·rintro ⟨h1, h2, h3, h4, h5⟩;exact ⟨h1, h2, h3, fun i hi => ⟨(h4 i hi).1, (h4 i hi).2.2⟩, fun i hi => (fil_filC (fun k hk => (h4 k hk).1)).2 (h4 i hi).2.1, h5⟩
theorem regs_succ (d : Nat -> Int) (k : Nat) : regs d (k + 1) = regs d k + if d k = 0 then 1 else 0 := rfl
theorem at6 {w : World} {D : Nat} {x0 x1 x2 x3 x4 x5 : Value} {t : TypeId} (h : w.heap[D]? = some (.cells #[x0, x1, x2, x3, x4, x5] t (0, 0))) :
 w.cell? ⟨D, 1, none⟩ = some x1 /\ w.cell? ⟨D, 2, none⟩ = some x2 := by
 simp [World.cell?, h]
set_option maxHeartbeats 4000000 in
theorem right_any (v : Value) (xs : List SM) (w : World) (hR : RdT w v xs) (hl : xs.length <= 4611686018427387904) :
 Calls Tryz.prog 128 #[v] w fun e w' => e = .returned (.bool (decide (RightP (dp xs) (kp xs) xs.length))) /\ Below w.heap.size w w' := by
 obtain ⟨A, c, rfl⟩ := hR.form;have HNE := Lib.hid (fun W (h : RdT W _ xs) => isNested_any (.slice A xs.length c) xs W h hl);have HFI := Lib.hid (fun i W (h : RdT W _ xs) (hi : i < xs.length) hN => isFilled_any (.slice A xs.length c) xs i W h hi hl hN);have HRI := Lib.hid (right_okR (d := dp xs) (kd := kp xs) (n := xs.length));obtain ⟨n, hn⟩ : ∃ n, xs.length = n := ⟨_, rfl⟩
 have HR := Lib.hid hR;have HNN := Lib.hid hn;rw [hn] at hl HR HNE HFI HRI ⊢;clear hR hn;by_cases h1 : n < 1
 ·have hf : decide (RightP (dp xs) (kp xs) n) = false := decide_eq_false fun h => by have := h.pos; omega
  rw [hf];clear hf
  go_enter Tryz.func128, Tryz.ntmps128
  go_wp2;go_ret;exact ⟨rfl, Below.refl _ _⟩
 by_cases h40 : 40 < n
 ·have hf : decide (RightP (dp xs) (kp xs) n) = false := decide_eq_false fun h => by have := h.le; omega
  rw [hf];clear hf
  go_enter Tryz.func128, Tryz.ntmps128
  go_wp2;go_ret;exact ⟨rfl, Below.refl _ _⟩
 by_cases hnst : Nst (dp xs) n;rotate_left
 ·have hf : decide (RightP (dp xs) (kp xs) n) = false := decide_eq_false fun h => hnst h.nst
  have HD := Lib.hid (decide_eq_false hnst);rw [hf];clear hf hnst
  go_enter Tryz.func128, Tryz.ntmps128
  go_wp2_with fail
  refine (HNE.out _ HR.out).mono ?_;rintro e w1 ⟨rfl, hb1⟩;rw [HD.out];have HB1 := Lib.hid hb1; clear hb1;go_wp2;go_ret;exact ⟨rfl, HB1.out⟩
 have HD := Lib.hid (decide_eq_true hnst);have HNS := Lib.hid hnst;clear hnst
 go_enter Tryz.func128, Tryz.ntmps128
 go_wp2_with fail
 refine (HNE.out _ HR.out).mono ?_;rintro e w1 ⟨rfl, hb1⟩;rw [HD.out];have HB1 := Lib.hid hb1; clear hb1;go_wp2
 go_loopw [3, 21] (fun x3 x21 wr => ∃ k : Nat, k <= n /\ x21 = .int .i64 k /\ x3 = .int .i64 (regs (dp xs) k) /\ Hid (∀ m, m < k -> OkR (dp xs) (kp xs) n m) /\ Below w.heap.size w wr) (fun _ x _ => n - (intOf x).toNat)
 case atStart => exact ⟨0, by omega, rfl, rfl, fun m hm => by omega, HB1.out⟩
 case round =>
  obtain ⟨k, hk, rfl, rfl, HK, hbw⟩ := hrel;obtain ⟨wl, hwl⟩ : ∃ W, W = wr := ⟨_, rfl⟩
  subst hwl;have hrl := regs_le (dp xs) k;by_cases hkn : k < n
  ·have hR1 := HR.out.below hbw;obtain ⟨b, o, rfl, hb, hc⟩ := hR1.base (by rw [HNN.out]; omega);obtain ⟨c0, c1, c2, c3, c4, c5⟩ := hc k (by rw [HNN.out]; exact hkn);have HR1 := Lib.hid hR1; have HBW := Lib.hid hbw;clear hbw hc hb hR1;generalize xs[k]'(by rw [HNN.out]; exact hkn) = x at *
   obtain ⟨xnm, xk, xd, xini, xea, xen, xec, xxa, xxn, xxc⟩ := x;simp only at c0 c3 c4 c5;by_cases hkd : 1 <= kp xs k /\ kp xs k <= 6;rotate_left
   ·have hf : decide (RightP (dp xs) (kp xs) n) = false := decide_eq_false fun h => hkd (h.fine k hkn).kind
    have HF := Lib.hid hf;have HBX := Lib.hid (fun o => HBW.out.alloc HBW.out.size o);clear hf HK;by_cases hk1 : kp xs k < 1
    ·clear hkd;go_wp2;go_ret;exact ⟨ret_bool HF.out.symm, HBX.out _⟩
    ·have hk6 : 6 < kp xs k := by omega
     clear hkd;go_wp2;go_ret;exact ⟨ret_bool HF.out.symm, HBX.out _⟩
   obtain ⟨W2, hW2⟩ : ∃ W, W = wl.alloc (.cells #[.string xnm, .int .i64 (kp xs k), .int .i64 (dp xs k), .string xini, .slice xea xen xec, .slice xxa xxn xxc] 50) := ⟨_, rfl⟩
   have hX : W2.heap[wl.heap.size]? = some (.cells #[.string xnm, .int .i64 (kp xs k), .int .i64 (dp xs k), .string xini, .slice xea xen xec, .slice xxa xxn xxc] 50 (0, 0)) := by rw [hW2]; exact heap_alloc_new _ _
   have hBX : Below wl.heap.size wl W2 := by rw [hW2]; exact (Below.refl _ _).alloc (Nat.le_refl _) _
   have hSX : W2.heap.size = wl.heap.size + 1 := by rw [hW2]; simp
   have HX := Lib.hid hX; have HBX := Lib.hid hBX; have HSX := Lib.hid hSX;have HR2 := Lib.hid (HR1.out.below hBX);have HC := Lib.hid (HFI.out k W2 HR2.out hkn HNS.out);clear hX hBX hSX;obtain ⟨k1, k6⟩ := hkd
   go_wp2_with (fail)
   rw [<- hW2];clear hW2;refine HC.out.mono ?_;rintro e w3 ⟨rfl, hb3⟩;have hq : w3.heap[wl.heap.size]? = W2.heap[wl.heap.size]? := hb3.block wl.heap.size (by rw [HSX.out]; omega);obtain ⟨d1, d2⟩ := at6 (hq.trans HX.out);clear hq;have HB3 := Lib.hid ((HBW.out.trans (HBX.out.mono HBW.out.size)).trans (hb3.mono (by have := HBX.out.size; have := HBW.out.size; omega)));clear hb3;by_cases hfil : FilC (dp xs) (kp xs) n k;rotate_left
   ·have hf : decide (RightP (dp xs) (kp xs) n) = false := decide_eq_false fun h => hfil ((HRI.out.1 h).2.2.2.1 k hkn).2.1
    have HF := Lib.hid hf;have HFL := Lib.hid (decide_eq_false hfil);rw [HFL.out];clear hf hfil HK;go_wp2;go_ret;exact ⟨ret_bool HF.out.symm, HB3.out⟩
   have HFL := Lib.hid (decide_eq_true hfil);have HFIL := Lib.hid hfil;rw [HFL.out];clear hfil;by_cases hz : dp xs k = 0
   ·by_cases h2 : kp xs k = 2
    ·have HS : Hid (∀ m, m < k + 1 -> OkR (dp xs) (kp xs) n m) := fun m hm => by
      by_cases e : m = k
      ·subst e; exact ⟨⟨k1, k6⟩, HFIL.out, fun _ => h2⟩
      ·exact HK.out m (by omega)
     have HRG : Hid ((regs (dp xs) (k + 1) : Int) = regs (dp xs) k + 1) := Lib.hid (by rw [regs_succ, if_pos hz]; omega);rw [hz] at d2;rw [h2] at d1;clear HK hz h2;go_wp2
     go_roundw
     case rel => exact ⟨k + 1, by omega, by go_num, by rw [HRG.out], HS.out, HB3.out⟩
     case measure => simp [intOf] <;> omega
    ·have hf : decide (RightP (dp xs) (kp xs) n) = false := decide_eq_false fun h => h2 ((h.fine k hkn).region hz)
     have HF := Lib.hid hf;have hne := int_ne h2;rw [hz] at d2;clear hf HK hz;go_wp2;go_ret;exact ⟨ret_bool HF.out.symm, HB3.out⟩
   ·have HS : Hid (∀ m, m < k + 1 -> OkR (dp xs) (kp xs) n m) := fun m hm => by
     by_cases e : m = k
     ·subst e; exact ⟨⟨k1, k6⟩, HFIL.out, fun h0 => absurd h0 hz⟩
     ·exact HK.out m (by omega)
    have HRG : Hid ((regs (dp xs) (k + 1) : Int) = regs (dp xs) k) := Lib.hid (by rw [regs_succ, if_neg hz]; omega);have hne := int_ne hz;clear HK;go_wp2
    go_roundw
    case rel => exact ⟨k + 1, by omega, by go_num, by rw [HRG.out], HS.out, HB3.out⟩
    case measure => simp [intOf] <;> omega
  ·obtain rfl : k = n := by omega
   have HBW := Lib.hid hbw;have hf : decide (RightP (dp xs) (kp xs) k) = decide ((regs (dp xs) k : Int) <= 4) := by
    by_cases h4 : regs (dp xs) k <= 4
    ·rw [decide_eq_true (HRI.out.2 ⟨by omega, by omega, HNS.out, HK.out, h4⟩), decide_eq_true (by omega)]
    ·rw [decide_eq_false (fun h => h4 h.regs), decide_eq_false (by omega)]
   have HF := Lib.hid hf;clear hf HK hbw;go_wp2;go_ret;exact ⟨ret_bool HF.out.symm, HBW.out⟩
end Go.Proofs.YtcnfcililiehlaaGreatDoor.Tr
namespace Go.Proofs.YtcnfcililiehlaaGreatDoor.Tr
open Go.RowKit
theorem Tryz.infoInt : (Tryz.prog.info? 3).map (fun i => (i.zero, i.size, i.bytes)) = some (some (.int .i64 0), 1, 8) := by kernel_rfl
def kvN (l : List Nat) : List Value := l.map fun k : Nat => Value.int .i64 (k : Int)
theorem kvN_append (a b : List Nat) : kvN (a ++ b) = kvN a ++ kvN b := by simp [kvN]
theorem one_int (w1 : World) (x : Value) : ∀ (j : Nat) (u : Value), [x][j]? = some u -> (w1.alloc (.cells #[x] 3)).cell? ((⟨w1.heap.size, 0, none⟩ : Addr).add j) = some u := by
 intro j u hu;cases j with
 | zero =>
  simp at hu; subst hu;rw [add_lit'];have := heap_alloc_new w1 (.cells #[x] 3);simp only [World.cell?, Nat.add_zero];rw [this];rfl
 | succ j => simp at hu
set_option maxHeartbeats 2000000 in
theorem refKids_any (v : Value) (xs : List SM) (i : Nat) (w : World) (hR : RdT w v xs) (hi : i < xs.length) (hl : xs.length <= 40) (hN : Nst (dp xs) xs.length) :
 Calls Tryz.prog 41 #[v, .int .i64 i] w fun e w' => (∃ u, e = .returned u /\ w'.ownsRow w.heap.size 3 1 u (kids (dp xs) xs.length i).length (kvN (kids (dp xs) xs.length i))) /\ Below w.heap.size w w' := by
 obtain ⟨i0, hi0, hz0, hz1, hz2⟩ := info_parts Tryz.infoInt;have HI := Lib.hid hi0; have HZ0 := Lib.hid hz0; have HZ1 := Lib.hid hz1; have HZ2 := Lib.hid hz2;clear hi0 hz0 hz1 hz2;have HP := Lib.hid (fun k W (hk : k < xs.length) (h : RdT W v xs) => refParent_any v xs k W h hk (by omega) hN);have HKD := Lib.hid (fun k (hk : k < xs.length) h => hN.kid (i := i) hk h);have HLO := Lib.hid hN.lo;obtain ⟨A, c, rfl⟩ := hR.form;obtain ⟨n, hn⟩ : ∃ n, xs.length = n := ⟨_, rfl⟩
 have HR := Lib.hid hR; have HNN := Lib.hid hn;rw [hn] at hi hl HR HP HKD HLO ⊢;clear hR hn hN
 go_enter Tryz.func41, Tryz.ntmps41
 go_wp2
 go_loopw [5, 6] (fun x5 x6 wr => ∃ k : Nat, k <= n /\ x6 = .int .i64 k /\ wr.ownsRow w.heap.size 3 1 x5 (kids (dp xs) k i).length (kvN (kids (dp xs) k i)) /\ Below w.heap.size w wr) (fun _ x _ => n - (intOf x).toNat)
 case atStart => exact ⟨0, by omega, rfl, World.ownsRow_nil _ _ _ _, Below.refl _ _⟩
 case round =>
  obtain ⟨k, hk, rfl, hown, hbw⟩ := hrel;obtain ⟨wl, hwl⟩ : ∃ W, W = wr := ⟨_, rfl⟩
  subst hwl;obtain ⟨A5, c5, e5⟩ := own_slice hown;subst e5;have hkl := kids_len (dp xs) k i;by_cases hkn : k < n
  ·have hR1 := HR.out.below hbw;obtain ⟨b, o, rfl, hb, hc⟩ := hR1.base (by rw [HNN.out]; omega);obtain ⟨_, _, c2, _, _, _⟩ := hc k (by rw [HNN.out]; exact hkn);have HC := Lib.hid (HP.out k wl hkn hR1);have HBW := Lib.hid hbw; have HOW := Lib.hid hown;have hks := kids_succ (dp xs) k i;clear hbw hown hc hb hR1;by_cases hp : par (dp xs) k = (i : Int)
   ·have hdk : 0 < dp xs k := by
     have h1 := (HKD.out k hkn hp).2.1; have h2 := HLO.out i hi; omega
    rw [show kidB (dp xs) i k = true from decide_eq_true hp, if_pos rfl] at hks;have HKS := Lib.hid hks;have HPR := Lib.hid hp;clear hks hp
    go_wp2_with (fail)
    refine HC.out.mono ?_;rintro e w1 ⟨rfl, q, hq⟩;rw [HPR.out];have hbq : Below wl.heap.size wl w1 := by rw [hq]; exact below_drewN (Below.refl _ _) q
    have HB1 : Hid (Below w.heap.size w w1) := HBW.out.trans (hbq.mono HBW.out.size);have HO1 : Hid (w1.ownsRow w.heap.size 3 1 (.slice A5 (kids (dp xs) k i).length c5) (kids (dp xs) k i).length (kvN (kids (dp xs) k i))) := own_below HOW.out hbq;have c2' := (hbq.cell (cell_lt c2)).trans c2;have hsz := HB1.out.size;clear hbq hq c2
    go_wp2_with (at_builtin; refine wpList_append_own _ rfl _ _ 29 rfl w.heap.size 3 i0 _ 1 8 Tryz.underlying29 HI.out HZ0.out HZ1.out HZ2.out rfl (by decide) _ (kids (dp xs) k i).length (kvN (kids (dp xs) k i)) rfl (HO1.out.alloc _) ⟨w1.heap.size, 0, none⟩ 1 1 [.int .i64 k] rfl rfl (one_int w1 _) (by intro u hu; simp at hu; subst hu; rfl) (by unfold maxLen; omega) (by omega) (by simp; omega) ?_)
    intro v' w2 hown' hgrow _;have HO2 : Hid (w2.ownsRow w.heap.size 3 1 v' (kids (dp xs) (k + 1) i).length (kvN (kids (dp xs) (k + 1) i))) := by
     show World.ownsRow _ _ _ _ _ _ _;rw [HKS.out, kvN_append, List.length_append]; exact hown'
    have HB2 : Hid (Below w.heap.size w w2) := (HB1.out.alloc HB1.out.size (.cells #[.int .i64 k] 3)).grown hgrow (by simp; omega) (fun k hk => (HO1.out.lt k hk).1);clear hown' hgrow;go_wp2
    go_roundw
    case rel => exact ⟨k + 1, by omega, by go_num, HO2.out, HB2.out⟩
    case measure => simp [intOf] <;> omega
   ·have hne : ((par (dp xs) k) == (i : Int)) = false := int_ne hp;rw [show kidB (dp xs) i k = false from decide_eq_false hp, if_neg (by simp), List.append_nil] at hks;have HKS := Lib.hid hks;clear hks hp
    go_wp2_with (fail)
    refine HC.out.mono ?_;rintro e w1 ⟨rfl, q, rfl⟩;have HB1 : Hid (Below w.heap.size w (wl.drewN q)) := below_drewN HBW.out q;have HO1 : Hid ((wl.drewN q).ownsRow w.heap.size 3 1 (.slice A5 (kids (dp xs) k i).length c5) (kids (dp xs) k i).length (kvN (kids (dp xs) k i))) := own_below HOW.out (below_drewN (Below.refl _ _) q);go_wp2
    go_roundw
    case rel => exact ⟨k + 1, by omega, by go_num, by rw [HKS.out]; exact HO1.out, HB1.out⟩
    case measure => simp [intOf] <;> omega
  ·obtain rfl : k = n := by omega
   have HBW := Lib.hid hbw; have HOW := Lib.hid hown;clear hbw hown;go_wp2;go_ret;exact ⟨⟨_, rfl, HOW.out⟩, HBW.out⟩
def RdN (w : World) (v : Value) (l : List Nat) : Prop := Inn w 1 v l.length (kvN l)
theorem RdN.at_ {w : World} {A : Option Addr} {m c : Nat} {l : List Nat} (h : RdN w (.slice A m c) l) {k : Nat} (hk : k < l.length) : ∃ b o, A = some ⟨b, o, none⟩ /\ w.cell? ⟨b, o + k, none⟩ = some (.int .i64 (l[k] : Nat)) := by
 rcases h with ⟨_, h1, _⟩ | ⟨ad, c', e, hl, hc⟩
 ·omega
 ·obtain ⟨b, o, rfl, _, hc⟩ := hc (by omega);simp only [Value.slice.injEq] at e;refine ⟨b, o, e.1, hc k _ ?_⟩;unfold kvN;rw [List.getElem?_map, List.getElem?_eq_getElem hk]; rfl
end Go.Proofs.YtcnfcililiehlaaGreatDoor.Tr
