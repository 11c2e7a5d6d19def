/- The document's Begin: the place at which an operand begins. -/
import Derived.Test.YtfgocdeaanalgaaDoorFE
import Derived.Test.YtfgocdeaanalgaaDoorFG
namespace Go.Proofs.YtfgocdeaanalgaaDoor
open Go.RowKit

theorem begN_pos (l : List CM) (k : Nat) : 1 ≤ begN l k := by
  cases l with
  | nil => show 1 ≤ 1000; omega
  | cons c r => rw [beg_cons]; split <;> omega
theorem beg_step {cs : List CM} {k v p : Nat} (hk : k < cs.length) (hp : p ≤ k) (h : begN (cs.take (k + 1)).reverse v = k + 1 - p) :
    (v - 1 + operN (cs[k]).op = 0 → k = p) ∧ (v - 1 + operN (cs[k]).op ≠ 0 → p < k ∧ begN (cs.take (k - 1 + 1)).reverse (v - 1 + operN (cs[k]).op) = k - 1 + 1 - p) := by
  rw [List.take_succ_eq_append_getElem hk, List.reverse_append] at h
  change begN (cs[k] :: (cs.take k).reverse) v = _ at h
  rw [beg_cons] at h
  refine ⟨fun h0 => by rw [if_pos h0] at h; omega, fun h0 => ?_⟩
  rw [if_neg h0] at h
  have h1 := begN_pos (cs.take k).reverse (v - 1 + operN (cs[k]).op)
  by_cases hk0 : k = 0
  · subst hk0
    have : begN (cs.take 0).reverse (v - 1 + operN (cs[0]).op) = 1000 := rfl
    omega
  · have e : k - 1 + 1 = k := by omega
    rw [e]
    exact ⟨by omega, by omega⟩

set_option maxRecDepth 100000 in
set_option maxHeartbeats 2000000 in
theorem begin_any (v : Value) (cs : List CM) (w : World) (hR : RdC w v cs) (hF : ∀ c ∈ cs, formedB c = true) (hl : cs.length ≤ 32) (p e : Nat) (he : e < cs.length) (hp : p ≤ e) (hb : begN (cs.take (e + 1)).reverse 1 = e + 1 - p) :
    Calls Tryd.prog 34 #[v, .int .i64 e] w fun x w' => x = .returned (.int .i64 p) ∧ Below w.heap.size w w' := by
  obtain ⟨A, c, rfl, hr⟩ := hR
  have HR := Lib.hid hr; have HF := Lib.hid hF; have HBEG := Lib.hid hb; clear hr hF hb
  obtain ⟨n, hn⟩ : ∃ n, cs.length = n := ⟨_, rfl⟩
  have HN := Lib.hid hn
  rw [hn] at hl he ⊢
  clear hn
  go_enter Tryd.func34, Tryd.ntmps34
  go_wp2
  go_loopw [4, 5, 6] (fun x4 want i wr => x4 = .int .i64 0 ∧ ∃ k vs : Nat, k ≤ e ∧ p ≤ k ∧ 1 ≤ vs ∧ vs + k ≤ e + 1 ∧ want = .int .i64 vs ∧ i = .int .i64 k ∧ Hid (begN (cs.take (k + 1)).reverse vs = k + 1 - p) ∧ Below w.heap.size w wr) (fun _ _ i _ => (intOf i).toNat)
  case atStart => exact ⟨rfl, e, 1, by omega, hp, by omega, by omega, rfl, rfl, HBEG, Below.refl _ _⟩
  case round =>
    obtain ⟨rfl, k, vs, hke, hpk, hv1, hvk, rfl, rfl, HB, hb⟩ := hrel
    have HBL := Lib.hid hb
    have hkn : k < n := by omega
    obtain ⟨b, o, rfl, d0, d1, d2⟩ := HR.out k (by rw [HN.out]; exact hkn)
    have hstep := beg_step (cs := cs) (k := k) (v := vs) (p := p) (by rw [HN.out]; exact hkn) hpk HB.out
    have hfm := HF.out (cs[k]'(by rw [HN.out]; exact hkn)) (List.getElem_mem _)
    obtain ⟨cc, hcc⟩ : ∃ cc, cs[k]'(by rw [HN.out]; exact hkn) = cc := ⟨_, rfl⟩
    rw [hcc] at d0 d1 d2 hstep hfm
    have hnm := formed_name hfm
    have e0 := (hb.cell (cell_lt d0)).trans d0
    have e1 := (hb.cell (cell_lt d1)).trans d1
    have e2 := (hb.cell (cell_lt d2)).trans d2
    have hon := operN_le cc.op
    obtain ⟨X, hX⟩ : ∃ X : ByteArray, bstr cc.nm = .string X := ⟨_, rfl⟩
    have hops := fun W => refOperands_any cc W (by omega)
    rw [hX, opsR_yes hfm] at hops
    rw [hX] at e2
    have HOP := Lib.hid hops
    have HST := Lib.hid hstep
    clear d0 d1 d2 hcc hb hX hfm hops hstep hnm
    generalize operN cc.op = on at *
    by_cases hz : vs - 1 + on = 0
    · have hkp := Lib.hid (HST.out.1 hz)
      have hz' : ((vs : Int) - 1 + (on : Int) == 0) = true := by simp; omega
      clear hz
      go_wp2_with fail
      refine (HOP.out _).mono ?_
      rintro x w2 ⟨rfl, hb2⟩
      have HB2 := Lib.hid (HBL.out.trans (hb2.mono HBL.out.size)); clear hb2
      go_wp2
      go_ret
      exact ⟨ret_int (show (k : Int) = (p : Int) by rw [hkp.out]), HB2.out⟩
    · obtain ⟨hkp, hnx⟩ := HST.out.2 hz
      have HNX := Lib.hid hnx
      have hz' : ((vs : Int) - 1 + (on : Int) == 0) = false := by simp; omega
      have hv1' : 1 ≤ vs - 1 + on := by omega
      clear hz hnx
      go_wp2_with fail
      refine (HOP.out _).mono ?_
      rintro x w2 ⟨rfl, hb2⟩
      have HB2 := Lib.hid (HBL.out.trans (hb2.mono HBL.out.size)); clear hb2
      go_wp2
      go_roundw
      case rel => exact ⟨rfl, k - 1, vs - 1 + on, by omega, by omega, by omega, by omega, by congr 1; omega, by congr 1; omega, HNX, HB2.out⟩
      case measure => simp [intOf]; omega
end Go.Proofs.YtfgocdeaanalgaaDoor
