/- Where a variable is: slices.IndexFunc by the closure over a name, kinds.variable, the document's Find. -/
import Derived.Test.YtmpelnbhlhifeaaIp
import Derived.Test.YtmpelnbhlhifeaaKc
namespace Go.Proofs.Ytmpelnbhlhifeaa
open Go.RowKit

def isV (n : List UInt8) (v : VM) : Bool := decide (v.nm = n)
def varA (v : VM) (X : ByteArray) : Value := .agg #[.string X, .int .i64 v.kd, .int .i64 v.lo, .int .i64 v.hi, .int .i64 v.ik, .int .i64 v.ia, .int .i64 v.ib]

theorem called_any (x : VM) (X N : ByteArray) (g : Nat) (w : World) (hg : g < w.heap.size) (hN : w.cell? ⟨g, 0, none⟩ = some (.string N)) :
    Calls Try.prog 38 #[.agg #[.string X, .int .i64 x.kd, .int .i64 x.lo, .int .i64 x.hi, .int .i64 x.ik, .int .i64 x.ia, .int .i64 x.ib], .pointer (some ⟨g, 0, none⟩)] w fun e w' => e = .returned (.bool (decide (X.data.toList = N.data.toList))) ∧ Below w.heap.size w w' := by
  have HB : Hid (∀ W : World, ∀ o : Obj, Below W.heap.size W (W.alloc o)) := fun W o => (Below.refl _ _).alloc (Nat.le_refl _) o
  have hne0 : w.heap.size ≠ g := by omega
  by_cases he : X.data.toList = N.data.toList
  · obtain rfl := str_eq he
    rw [decide_eq_true he]
    clear he
    go_enter Try.func38, Try.ntmps38
    go_wp2
    go_ret
    exact ⟨rfl, HB.out _ _⟩
  · have hne := str_ne he
    have hne' := str_ne (Ne.symm he)
    rw [decide_eq_false he]
    clear he
    go_enter Try.func38, Try.ntmps38
    go_wp2
    go_ret
    exact ⟨rfl, HB.out _ _⟩

set_option maxHeartbeats 1000000 in
theorem varIndex_any (v : Value) (vs : List VM) (N : ByteArray) (g : Nat) (w : World) (hR : RdV w v vs) (hl : vs.length ≤ 4611686018427387904) (hg : g < w.heap.size) (hN : w.cell? ⟨g, 0, none⟩ = some (.string N)) :
    Calls Try.prog 30 #[v, .func (.func 38) #[] #[.pointer (some ⟨g, 0, none⟩)]] w fun e w' => e = .returned (.int .i64 (ixP (isV N.data.toList) vs 0)) ∧ Below w.heap.size w w' := by
  obtain ⟨A, c, rfl⟩ := hR.form
  have HR := Lib.hid hR; clear hR
  obtain ⟨n, hn⟩ : ∃ n, vs.length = n := ⟨_, rfl⟩
  have HN := Lib.hid hn
  rw [hn] at hl HR ⊢
  clear hn
  have HNM := Lib.hid hN; clear hN
  go_enter Try.func30, Try.ntmps30
  go_wp2
  go_loopw [4, 5, 8] (fun x4 x5 i wr => x4 = .int .i64 0 ∧ (x5 = .int .i64 0 ∨ True) ∧ ∃ k : Nat, k ≤ n ∧ i = .int .i64 k ∧ Hid (ixP (isV N.data.toList) (vs.drop k) k = ixP (isV N.data.toList) vs 0) ∧ Below w.heap.size w wr) (fun _ _ i _ => n - (intOf i).toNat)
  case atStart => exact ⟨rfl, Or.inr trivial, 0, by omega, rfl, rfl, Below.refl _ _⟩
  case round =>
    obtain ⟨rfl, _, k, hk, rfl, HI, hb⟩ := hrel
    have HBL := Lib.hid hb
    by_cases hkn : k < n
    · have HR' := HR.out.below hb
      obtain ⟨b, o, rfl, _, hc0, hc1, hc2, hc3, hc4, hc5, hc6⟩ := HR'.at_ (k := k) (by rw [HN.out]; exact hkn)
      have hst := ix_step (p := isV N.data.toList) (l := vs) (k := k) (by rw [HN.out]; exact hkn)
      rw [HI.out] at hst
      obtain ⟨X, hX, hXl⟩ := bstr_some (vs[k]'(by rw [HN.out]; exact hkn)).nm
      have hiv : isV N.data.toList (vs[k]'(by rw [HN.out]; exact hkn)) = decide (X.data.toList = N.data.toList) := by rw [hXl]; rfl
      rw [hiv] at hst
      rw [hX] at hc0
      generalize vs[k]'(by rw [HN.out]; exact hkn) = x at *
      have HC := Lib.hid (called_any x X N g wr (by have := HBL.out.size; omega) ((hb.cell hg).trans HNM.out))
      clear hX hXl hb HR' hiv
      by_cases he : X.data.toList = N.data.toList
      · have hr : ixP (isV N.data.toList) vs 0 = k := by rw [hst, if_pos (by simp [he])]
        have HRR := Lib.hid hr
        have HE := Lib.hid (decide_eq_true he)
        clear hst hr he HI
        go_wp2_with fail
        refine HC.out.mono ?_
        rintro e w1 ⟨rfl, hb1⟩
        rw [HE.out]
        have HB1 := Lib.hid (HBL.out.trans (hb1.mono HBL.out.size)); clear hb1
        go_wp2
        go_ret
        exact ⟨ret_int HRR.out.symm, HB1.out⟩
      · have hr : ixP (isV N.data.toList) (vs.drop (k + 1)) (k + 1) = ixP (isV N.data.toList) vs 0 := by rw [hst, if_neg (by simp [he])]
        have HRR := Lib.hid hr
        have HE := Lib.hid (decide_eq_false he)
        clear hst hr he HI
        go_wp2_with fail
        refine HC.out.mono ?_
        rintro e w1 ⟨rfl, hb1⟩
        rw [HE.out]
        have HB1 := Lib.hid (HBL.out.trans (hb1.mono HBL.out.size)); clear hb1
        go_wp2
        go_roundw
        case rel => exact ⟨rfl, Or.inr trivial, k + 1, by omega, by go_num, HRR.out, HB1.out⟩
        case measure => simp [intOf]; omega
    · have hr : ixP (isV N.data.toList) vs 0 = -1 := by rw [← HI.out, ix_end (by rw [HN.out]; exact hkn)]
      have HRR := Lib.hid hr
      clear hr HI
      go_wp2
      go_ret
      exact ⟨ret_int HRR.out.symm, HBL.out⟩
end Go.Proofs.Ytmpelnbhlhifeaa
