/- Children, handed out one by one: the iterator's contract. -/
import Derived.Test.YtpmgleioldlolaaUd
import Derived.RangeFuncNested
import Derived.RangeFuncBound
import Derived.RangeFuncCalls
import Derived.RangeFuncLeaves
import Derived.RangeFuncBox
import Derived.Shelf.Abstract
import Derived.Shelf.RegionOpen
import Derived.WalkKit
import Derived.OwnWalkIn
import Derived.TacticsInMore
import Derived.LoopNIn
import Derived.LoopIn
namespace Go.Proofs.Ytpmgleioldlolaa
open Go.RowKit Go.Shelf

attribute [local go_sem] Oper.semAt_some

/-- what is said to be kept lies as it lay -/
def KeepP (keep : Nat → Prop) (W W' : World) : Prop := W.heap.size ≤ W'.heap.size ∧ ∀ k, keep k → W'.heap[k]? = W.heap[k]?
theorem KeepP.refl (keep : Nat → Prop) (W : World) : KeepP keep W W := ⟨Nat.le_refl _, fun _ _ => rfl⟩
theorem KeepP.trans {keep : Nat → Prop} {A B C : World} (h : KeepP keep A B) (h' : KeepP keep B C) : KeepP keep A C := ⟨Nat.le_trans h.1 h'.1, fun k hk => (h'.2 k hk).trans (h.2 k hk)⟩
theorem KeepP.drewN {keep : Nat → Prop} {A B : World} (h : KeepP keep A B) (n : Nat) : KeepP keep A (B.drewN n) := h
theorem cell_box {W : World} {B : Nat} {t : TypeId} {v : Value} (h : Boxed W B t v) : W.cell? ⟨B, 0, none⟩ = some v := h.cell

/-- which blocks the iterator needs: what lay below, and its two boxes -/
def keepC (B0 BL BI : Nat) (k : Nat) : Prop := k < B0 ∨ k = BL ∨ k = BI
/-- where it stands behind a round: k, what has come, what J says -/
structure ItI {N : Nat} (d : Nat → Int) (i B0 BL BI : Nat) (J : List { k : Nat // k < N } → World → Prop) (W wr : World) (k : Nat) (pre : List { k : Nat // k < N }) : Prop where
  come : pre.map (·.1) = kids d k i
  gt : i < k
  le : k ≤ en d N i
  par : k < en d N i → par d k = (i : Int)
  j : J pre wr
  keep : KeepP (keepC B0 BL BI) W wr
theorem kids_len (d : Nat → Int) (m i : Nat) : (kids d m i).length ≤ m := by
  have := List.length_filter_le (kidB d i) (List.range m)
  rw [List.length_range] at this
  exact this

theorem kids_prefix {d : Nat → Int} {m m' i : Nat} (h : m ≤ m') : kids d m i <+: kids d m' i := by
  unfold kids
  obtain ⟨g, rfl⟩ : ∃ g, m' = m + g := ⟨m' - m, by omega⟩
  rw [List.range_add, List.filter_append]
  exact List.prefix_append _ _
theorem quiet_on {P : Program} {f : FuncId} {args : Array Value} {w : World} {n : Nat} {v : Value} (h : Calls P f args (w.drewN n) fun e w' => e = .returned v ∧ ∃ r, w' = (w.drewN n).drewN r) :
    Calls P f args (w.drewN n) fun e w'' => e = .returned v ∧ ∃ m, w'' = w.drewN m := h.mono fun _ _ ⟨he, r, hr⟩ => ⟨he, n + r, by rw [hr, World.drewN_drewN]⟩

set_option maxRecDepth 100000 in
set_option maxHeartbeats 4000000 in
theorem children1_in (n : Nat) (hn : 1 ≤ n) (l BL BI : Nat) (v : Value) (xs : List SM) (i : Nat) (hi : i < xs.length) (hl : xs.length ≤ 4611686018427387904) (hN : Nst (dp xs) xs.length) (w0 : World) (hR : RdT w0 v xs)
    (J Jx : List { k : Nat // k < xs.length } → World → Prop) (hJ : ∀ pre W m, J pre W → J pre (World.drewN W m))
    (hY : ∀ pre x W, J pre W → pre.length < xs.length → YieldAt Fence.wide (n - 1) Try.prog l #[.int .i64 x.1] W fun e W' =>
      (e = .returned (.bool true) ∧ J (pre ++ [x]) W' ∧ KeepP (keepC w0.heap.size BL BI) W W') ∨ (e = .returned (.bool false) ∧ Jx (pre ++ [x]) W'))
    (W : World) (hW : KeepP (fun k => k < w0.heap.size) w0 W) (hBL : Boxed W BL 22 v) (hBI : Boxed W BI 3 (.int .i64 i)) (h0 : J [] W) :
    CallsIn Fence.wide n Try.prog 39 #[.func (.yield l) #[] #[], .pointer (some ⟨BI, 0, none⟩), .pointer (some ⟨BL, 0, none⟩)] W fun e W' => (∃ v, e = .returned v) ∧
      ((∃ ys, ys.map (·.1) = kids (dp xs) xs.length i ∧ J ys W') ∨ (∃ pre, pre.map (·.1) <+: kids (dp xs) xs.length i ∧ Jx pre W')) := by
  have HRD : Hid (∀ wr m, KeepP (keepC w0.heap.size BL BI) W wr → RdT (wr.drewN m) v xs) := fun wr m h =>
    Inn.same hR (Nat.le_trans hW.1 h.1) (fun k hk => (h.2 k (Or.inl hk)).trans (hW.2 k hk))
  have HBL : Hid (∀ wr, KeepP (keepC w0.heap.size BL BI) W wr → wr.cell? ⟨BL, 0, none⟩ = some v) := fun wr h => cell_box (show Boxed wr BL 22 v from (h.2 BL (Or.inr (Or.inl rfl))).trans hBL)
  have HE := Lib.hid (fun k W (hk : k < xs.length) h => end_any v xs k W h hk hl)
  have HN := Lib.hid hN
  have hcl := HBL.out W (KeepP.refl _ _)
  have hci := cell_box hBI
  obtain ⟨e1, e2, _, _⟩ := en_spec (dp xs) hi
  have HY := Lib.hid hY; have HJ := Lib.hid hJ; have H0 := Lib.hid h0
  clear hR hW hBL hBI hN hY hJ h0
  refine callsIn_of_wp Try.func39 rfl trivial ?_ rfl
  simp only [Try.ntmps39, List.size_toArray, List.length_cons, List.length_nil, Nat.reduceAdd, Nat.reduceSub, Array.replicate_succ, Array.replicate_zero, List.push_toArray, List.append_toArray, List.nil_append, List.cons_append]
  gi_wp2
  refine wpIn_wide.2 ?_
  go_quiet ((go_at_call 33; exact quiet_on (HE.out i _ hi (HRD.out _ _ (KeepP.refl _ _)))))
  gi_wp2
  gi_loopw [4] (fun x4 wr => ∃ (k : Nat) (pre : List { k : Nat // k < xs.length }), x4 = .int .i64 k ∧ ItI (dp xs) i w0.heap.size BL BI J W wr k pre) (fun x _ => en (dp xs) xs.length i - (intOf x).toNat)
  case atStart =>
    exact ⟨i + 1, [], by go_num, by rw [HN.out.kids_first hi]; rfl, by omega, e1, fun h => HN.out.first_kid hi h, HJ.out _ _ _ H0.out, KeepP.refl _ _⟩
  case round =>
    obtain ⟨k, pre, rfl, hI⟩ := hrel
    by_cases hlt : k < en (dp xs) xs.length i
    · have hkn : k < xs.length := by omega
      obtain ⟨f1, f2, f3, f4⟩ := HN.out.next_kid hi hlt (hI.par hlt)
      obtain ⟨fn, tmps, assign, body, hy, hQ⟩ := HY.out pre ⟨k, hkn⟩ wr hI.j (by have h1 := congrArg List.length hI.come; rw [List.length_map] at h1; have := kids_len (dp xs) k i; omega)
      dsimp only at hy
      have HI := Lib.hid hI
      have HF := Lib.hid (And.intro f1 (And.intro f2 (And.intro f3 f4)))
      clear hI f1 f2 f3 f4
      gi_wp2
      refine hQ.mono ?_
      rintro e W3 (⟨rfl, hJ3, hk3⟩ | ⟨rfl, hJx3⟩)
      · have hkp := HI.out.keep.trans hk3
        have hc3 := HBL.out W3 hkp
        have HKP := Lib.hid hkp; have HJ3 := Lib.hid hJ3
        clear hkp hk3 hJ3 hQ hy
        gi_wp2_with (refine ⟨trivial, ?_⟩; gi_at_call 33; refine (callsIn_wide.2 (HE.out k _ hkn (HRD.out W3 0 HKP.out))).mono ?_; rintro e W4 ⟨rfl, q, rfl⟩)
        go_roundw
        case rel =>
          refine ⟨_, pre ++ [⟨k, hkn⟩], rfl, ?_, ?_, HF.out.2.1, HF.out.2.2.2, HJ.out _ _ _ HJ3.out, HKP.out⟩
          · rw [List.map_append, HI.out.come, HF.out.2.2.1]; rfl
          · have := HI.out.gt; have := HF.out.1; omega
        case measure =>
          have := HF.out.1; have := HF.out.2.1
          simp [intOf] <;> omega
      · gi_wp2
        refine bodyPost_ret (results_none rfl _ _ _) rfl ?_
        refine ⟨⟨_, rfl⟩, .inr ⟨pre ++ [⟨k, hkn⟩], ?_, hJx3⟩⟩
        rw [List.map_append, HI.out.come, HN.out.kids_end hi]
        have e : kids (dp xs) k i ++ [k] = kids (dp xs) (en (dp xs) xs.length k) i := HF.out.2.2.1.symm
        show kids (dp xs) k i ++ [k] <+: _
        rw [e]
        exact kids_prefix HF.out.2.1
    · obtain rfl : k = en (dp xs) xs.length i := by have := hI.le; omega
      gi_wp2
      go_end0
      exact ⟨⟨_, rfl⟩, .inl ⟨_, by rw [hI.come, HN.out.kids_end hi], hI.j⟩⟩
end Go.Proofs.Ytpmgleioldlolaa
