/- Layer 17: Twice. -/
import Derived.Test.YtlblkakjbjmciaaId
namespace Go.Proofs.Ytlblkakjbjmciaa.Bg
open Go.RowKit Go.Proofs.Ytlblkakjbjmciaa.Wi
set_option maxRecDepth 100000

def twiceE (L : Bag) (i : Int) : Int := if i < 0 ∨ (L.length : Int) ≤ i then 5 else if 16 ≤ L.length then 10 else 0
def twiceB (L : Bag) (i : Int) : Bag := if i < 0 ∨ (L.length : Int) ≤ i then L else putB L (fn L i.toNat)
set_option maxHeartbeats 1600000 in
theorem twice_any {K : Nat} {L : Bag} {w : World} (h : BagAt K L w) (i : Int) :
    Calls Try.prog 13 #[bp K, .int .i64 i] w fun e w' => e = .returned (.int .i64 (twiceE L i)) ∧ BagAt K (twiceB L i) w' ∧ Fr K w w' := by
  have HA := Lib.hid (ask_any h i)
  by_cases hi : i < 0 ∨ (L.length : Int) ≤ i
  · have h1 : askE L i = 5 := if_pos hi
    have HE : Hid (twiceE L i = 5) := if_pos hi
    have HB : Hid (twiceB L i = L) := if_pos hi
    have H := Lib.hid h
    rw [h1] at HA
    clear hi h1 h
    unfold bp at *
    go_enter Try.func13, Try.ntmps13
    go_wp2_with fail
    refine HA.out.mono ?_
    rintro e w1 ⟨rfl, rfl⟩
    clear HA
    go_wp2
    go_ret
    rw [HE.out, HB.out]
    exact ⟨rfl, H.out, Fr.refl _ _⟩
  · have h1 : askE L i = 0 := if_neg hi
    obtain ⟨k, rfl⟩ : ∃ k : Nat, i = k := ⟨i.toNat, by omega⟩
    have hk : k < L.length := by omega
    have HB : Hid (twiceB L k = putB L ((fn L k).1, (fn L k).2)) := if_neg hi
    have hE : twiceE L k = if 16 ≤ L.length then 10 else 0 := if_neg hi
    have hle := h.le
    obtain ⟨S, hS, hSl, hSz⟩ := bS_eq (fn L k).1
    have c0 : w.cell? ⟨K, k * 2, none⟩ = some (.string S) := by rw [h.box.txt k (by omega), hS]
    have c1 : w.cell? ⟨K, k * 2 + 1, none⟩ = some (.bool (fn L k).2) := h.box.trn k (by omega)
    have hp := put_in h S (fn L k).2
    rw [hSl] at hp
    have hwr : IntKind.i64.wrap (k : Int) = (k : Int) := IntWalk.i64_in _ (by omega)
    have HP := Lib.hid hp; have HE := Lib.hid hE
    have hk16 : k < 16 := by omega
    have HR : Hid ((roomB L = true → twiceE L k = 0) ∧ (roomB L = false → twiceE L k = 10)) := by
      refine ⟨fun e => ?_, fun e => ?_⟩
      · rw [hE, if_neg]; have := of_decide_eq_true e; omega
      · rw [hE, if_pos]; have := of_decide_eq_false e; omega
    rw [h1] at HA
    clear hp hE hS hSl hSz hi h hk hle h1
    generalize (fn L k).2 = b at *
    unfold bp at *
    go_enter Try.func13, Try.ntmps13
    go_wp2_with fail
    refine HA.out.mono ?_
    rintro e w1 ⟨rfl, rfl⟩
    clear HA
    go_wp2_with fail
    refine HP.out.mono ?_
    rintro e w1 ⟨rfl, hb⟩
    have H2 := Lib.hid hb
    clear HP hb
    cases hr : roomB L
    · go_wp2
      go_ret
      rw [HR.out.2 hr, HB.out]
      exact ⟨rfl, H2.out⟩
    · go_wp2
      go_ret
      rw [HR.out.1 hr, HB.out]
      exact ⟨rfl, H2.out⟩
set_option maxHeartbeats 800000 in
theorem twice_nil (i : Int) (w : World) : Calls Try.prog 13 #[.pointer none, .int .i64 i] w fun e w' => e = .returned (.int .i64 15) ∧ w = w' := by
  have HA := Lib.hid (ask_nil i w)
  go_enter Try.func13, Try.ntmps13
  go_wp2_with fail
  refine HA.out.mono ?_
  rintro e w1 ⟨rfl, rfl⟩
  clear HA
  go_wp2
  go_ret
  exact ⟨rfl, rfl⟩
end Go.Proofs.Ytlblkakjbjmciaa.Bg
