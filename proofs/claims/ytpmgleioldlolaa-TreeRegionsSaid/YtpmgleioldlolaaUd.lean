/- Are states nested? as the program asks it. -/
import Derived.Test.YtpmgleioldlolaaUc
namespace Go.Proofs.Ytpmgleioldlolaa
open Go.RowKit

/-- the depth ahead -/
def ahd (d : Nat → Int) : Nat → Int
  | 0 => -1
  | k + 1 => d k
def OkN (d : Nat → Int) (m : Nat) : Prop := 0 ≤ d m ∧ d m < 6 ∧ d m ≤ ahd d m + 1
theorem nst_ok {d : Nat → Int} {n : Nat} : Nst d n ↔ ∀ m, m < n → OkN d m := by
  constructor
  · intro h m hm
    refine ⟨h.lo m hm, h.hi m hm, ?_⟩
    cases m with
    | zero => have := h.first hm; show d 0 ≤ -1 + 1; omega
    | succ k => exact h.step k hm
  · intro h
    refine ⟨fun i hi => (h i hi).1, fun i hi => (h i hi).2.1, fun h0 => ?_, fun i hi => (h (i + 1) hi).2.2⟩
    have : d 0 ≤ -1 + 1 := (h 0 h0).2.2
    omega
theorem ahd_le {d : Nat → Int} {k : Nat} (h : ∀ m, m < k → OkN d m) : -1 ≤ ahd d k ∧ ahd d k ≤ 5 := by
  cases k with
  | zero => show (-1 : Int) ≤ -1 ∧ (-1 : Int) ≤ 5; omega
  | succ k =>
    have := h k (by omega)
    show -1 ≤ d k ∧ d k ≤ 5
    have := this.1; have := (h k (by omega)).2.1; omega

theorem box6 {w wl : World} (hb : Below w.heap.size w wl) (o : Obj) (v0 v1 v2 v3 v4 v5 : Value) :
    Below w.heap.size w (((((((wl.alloc o).setCell ⟨wl.heap.size, 0, none⟩ v0).setCell ⟨wl.heap.size, 1, none⟩ v1).setCell ⟨wl.heap.size, 2, none⟩ v2).setCell ⟨wl.heap.size, 3, none⟩ v3).setCell ⟨wl.heap.size, 4, none⟩ v4).setCell ⟨wl.heap.size, 5, none⟩ v5) :=
  ((((((hb.alloc hb.size o).setCell hb.size v0).setCell hb.size v1).setCell hb.size v2).setCell hb.size v3).setCell hb.size v4).setCell hb.size v5

set_option maxHeartbeats 4000000 in
theorem isNested_any (v : Value) (xs : List SM) (w : World) (hR : RdT w v xs) (hl : xs.length ≤ 4611686018427387904) :
    Calls Try.prog 28 #[v] w fun e w' => e = .returned (.bool (decide (Nst (dp xs) xs.length))) ∧ Below w.heap.size w w' := by
  obtain ⟨A, c, rfl⟩ := hR.form
  obtain ⟨n, hn⟩ : ∃ n, xs.length = n := ⟨_, rfl⟩
  have HR := Lib.hid hR
  have HNN := Lib.hid hn
  rw [hn] at hl HR ⊢
  clear hR hn
  go_enter Try.func28, Try.ntmps28
  go_wp2
  go_loopw [3, 8] (fun x3 x8 wr => ∃ k : Nat, k ≤ n ∧ x8 = .int .i64 k ∧ x3 = .int .i64 (ahd (dp xs) k) ∧ Hid (∀ m, m < k → OkN (dp xs) m) ∧ Below w.heap.size w wr) (fun _ x _ => n - (intOf x).toNat)
  case atStart => exact ⟨0, by omega, rfl, rfl, fun m hm => by omega, Below.refl _ _⟩
  case round =>
    obtain ⟨k, hk, rfl, rfl, HK, hbw⟩ := hrel
    obtain ⟨wl, hwl⟩ : ∃ W, W = wr := ⟨_, rfl⟩
    subst hwl
    by_cases hkn : k < n
    · obtain ⟨b, o, rfl, hb, hc⟩ := HR.out.base (by rw [HNN.out]; omega)
      obtain ⟨c0, c1, c2, c3, c4, c5⟩ := hc k (by rw [HNN.out]; exact hkn)
      have hcell : ∀ p u, w.cell? ⟨b, p, none⟩ = some u → wl.cell? ⟨b, p, none⟩ = some u := fun p u h => (hbw.cell hb).trans h
      replace c0 := hcell _ _ c0; replace c1 := hcell _ _ c1; replace c2 := hcell _ _ c2; replace c3 := hcell _ _ c3; replace c4 := hcell _ _ c4; replace c5 := hcell _ _ c5
      have hah := ahd_le HK.out
      have HBX := Lib.hid (fun o v0 v1 v2 v3 v4 v5 => box6 hbw o v0 v1 v2 v3 v4 v5)
      clear hcell hbw hc hb
      generalize xs[k]'(by rw [HNN.out]; exact hkn) = x at *
      obtain ⟨xnm, xk, xd, xini, xea, xen, xec, xxa, xxn, xxc⟩ := x
      simp only at c0 c3 c4 c5
      by_cases hok : OkN (dp xs) k
      · obtain ⟨o1, o2, o3⟩ := hok
        have HS : Hid (∀ m, m < k + 1 → OkN (dp xs) m) := fun m hm => by
          by_cases e : m = k
          · subst e; exact ⟨o1, o2, o3⟩
          · exact HK.out m (by omega)
        clear HK
        go_wp2
        go_roundw
        case rel => exact ⟨k + 1, by omega, by go_num, rfl, HS.out, HBX.out _ _ _ _ _ _ _⟩
        case measure => simp [intOf] <;> omega
      · have hf : decide (Nst (dp xs) n) = false := decide_eq_false fun h => hok (nst_ok.1 h k hkn)
        have HF := Lib.hid hf
        clear hf HK
        by_cases h1 : dp xs k < 0
        · clear hok
          go_wp2
          go_ret
          exact ⟨ret_bool HF.out.symm, HBX.out _ _ _ _ _ _ _⟩
        · by_cases h2 : 6 ≤ dp xs k
          · clear hok
            go_wp2
            go_ret
            exact ⟨ret_bool HF.out.symm, HBX.out _ _ _ _ _ _ _⟩
          · have h3 : ahd (dp xs) k + 1 < dp xs k := by
              unfold OkN at hok; omega
            clear hok
            go_wp2
            go_ret
            exact ⟨ret_bool HF.out.symm, HBX.out _ _ _ _ _ _ _⟩
    · obtain rfl : k = n := by omega
      have hf : decide (Nst (dp xs) k) = true := decide_eq_true (nst_ok.2 HK.out)
      have HF := Lib.hid hf
      have HBW := Lib.hid hbw
      clear hf HK hbw
      go_wp2
      go_ret
      exact ⟨ret_bool HF.out.symm, HBW.out⟩
end Go.Proofs.Ytpmgleioldlolaa
