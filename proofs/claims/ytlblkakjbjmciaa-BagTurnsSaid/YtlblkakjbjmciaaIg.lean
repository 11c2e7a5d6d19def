/- Layer 17: Take, Drop. -/
import Derived.Test.YtlblkakjbjmciaaIf
namespace Go.Proofs.Ytlblkakjbjmciaa.Bg
open Go.RowKit Go.Proofs.Ytlblkakjbjmciaa.Wi
set_option maxRecDepth 100000

def takeB (L : Bag) (i : Int) : Bag := if i < 0 ∨ (L.length : Int) ≤ i then L else L.eraseIdx i.toNat
def takeS (L : Bag) (i : Int) : Bytes := if i < 0 ∨ (L.length : Int) ≤ i then [] else (fn L i.toNat).1
set_option maxHeartbeats 1600000 in
theorem take_any {K : Nat} {L : Bag} {w : World} (h : BagAt K L w) (hs : ∀ p ∈ L, p.1.length ≤ 281474976710656) (i : Int) :
    Calls Try.prog 15 #[bp K, .int .i64 i] w fun e w' => e = .returned (.tuple #[bS (takeS L i), .int .i64 (askE L i)]) ∧ BagAt K (takeB L i) w' ∧ Fr K w w' := by
  have HA := Lib.hid (ask_any h i)
  by_cases hi : i < 0 ∨ (L.length : Int) ≤ i
  · have h1 : askE L i = 5 := if_pos hi
    have HB : Hid (takeB L i = L) := if_pos hi
    have HS : Hid (takeS L i = []) := if_pos hi
    have H := Lib.hid h
    rw [h1] at HA ⊢
    clear hi h1 h hs
    unfold bp at *
    go_enter Try.func15, Try.ntmps15
    go_wp2_with fail
    refine HA.out.mono ?_
    rintro e w1 ⟨rfl, rfl⟩
    clear HA
    go_wp2
    go_ret2
    rw [HS.out, HB.out]
    exact ⟨rfl, H.out, Fr.refl _ _⟩
  · have h1 : askE L i = 0 := if_neg hi
    obtain ⟨k, rfl⟩ : ∃ k : Nat, i = k := ⟨i.toNat, by omega⟩
    have hk : k < L.length := by omega
    have HB : Hid (takeB L k = L.eraseIdx k) := if_neg hi
    have hS1 : takeS L k = (fn L k).1 := if_neg hi
    have hle := h.le
    obtain ⟨S, hS, hSl, hSz⟩ := bS_eq (fn L k).1
    have c0 : w.cell? ⟨K, k * 2, none⟩ = some (.string S) := by rw [h.box.txt k (by omega), hS]
    have hsz := hs L[k] (List.getElem_mem hk)
    rw [← fn_at hk] at hsz
    have HC := Lib.hid (clone_any S w (by omega))
    have HT : Hid (∀ w1, Below w.heap.size w w1 → Calls Try.prog 21 #[bp K, .int .i64 k] w1 fun e w' => e = .returned (.tuple #[]) ∧ BagAt K (L.eraseIdx k) w' ∧ Fr K w w') :=
      fun w1 hb => (takeOut_any ⟨h.box.below hb, h.le⟩ k hk).mono fun e w' ⟨h1, h2, h3⟩ => ⟨h1, h2, (Fr.below hb).trans h3⟩
    have hwr : IntKind.i64.wrap (k : Int) = (k : Int) := IntWalk.i64_in _ (by omega)
    have hk16 : k < 16 := by omega
    have HS : Hid (bS (takeS L k) = .string S) := by rw [hS1, hS]; exact rfl
    rw [h1] at HA ⊢
    clear hS1 hS hSl hSz hi h hk hle h1 hsz hs
    unfold bp at *
    go_enter Try.func15, Try.ntmps15
    go_wp2_with fail
    refine HA.out.mono ?_
    rintro e w1 ⟨rfl, rfl⟩
    clear HA
    go_wp2_with fail
    refine HC.out.mono ?_
    rintro e w1 ⟨rfl, hb⟩
    have HB1 := Lib.hid hb
    clear HC hb
    go_wp2_with fail
    refine (HT.out _ HB1.out).mono ?_
    rintro e w2 ⟨rfl, hb⟩
    have H2 := Lib.hid hb
    clear HT hb
    go_wp2
    go_ret2
    rw [HS.out, HB.out]
    exact ⟨rfl, H2.out⟩
set_option maxHeartbeats 800000 in
theorem take_nil (i : Int) (w : World) : Calls Try.prog 15 #[.pointer none, .int .i64 i] w fun e w' => e = .returned (.tuple #[.string ⟨#[]⟩, .int .i64 15]) ∧ w = w' := by
  have HA := Lib.hid (ask_nil i w)
  go_enter Try.func15, Try.ntmps15
  go_wp2_with fail
  refine HA.out.mono ?_
  rintro e w1 ⟨rfl, rfl⟩
  clear HA
  go_wp2
  go_ret2
  exact ⟨rfl, rfl⟩
set_option maxHeartbeats 1600000 in
theorem drop_any {K : Nat} {L : Bag} {w : World} (h : BagAt K L w) (i : Int) :
    Calls Try.prog 16 #[bp K, .int .i64 i] w fun e w' => e = .returned (.int .i64 (askE L i)) ∧ BagAt K (takeB L i) w' ∧ Fr K w w' := by
  have HA := Lib.hid (ask_any h i)
  by_cases hi : i < 0 ∨ (L.length : Int) ≤ i
  · have h1 : askE L i = 5 := if_pos hi
    have HB : Hid (takeB L i = L) := if_pos hi
    have H := Lib.hid h
    rw [h1] at HA ⊢
    clear hi h1 h
    unfold bp at *
    go_enter Try.func16, Try.ntmps16
    go_wp2_with fail
    refine HA.out.mono ?_
    rintro e w1 ⟨rfl, rfl⟩
    clear HA
    go_wp2
    go_ret
    rw [HB.out]
    exact ⟨rfl, H.out, Fr.refl _ _⟩
  · have h1 : askE L i = 0 := if_neg hi
    obtain ⟨k, rfl⟩ : ∃ k : Nat, i = k := ⟨i.toNat, by omega⟩
    have hk : k < L.length := by omega
    have HB : Hid (takeB L k = L.eraseIdx k) := if_neg hi
    have HT := Lib.hid (takeOut_any h k hk)
    rw [h1] at HA ⊢
    clear hi h hk h1
    unfold bp at *
    go_enter Try.func16, Try.ntmps16
    go_wp2_with fail
    refine HA.out.mono ?_
    rintro e w1 ⟨rfl, rfl⟩
    clear HA
    go_wp2_with fail
    refine HT.out.mono ?_
    rintro e w2 ⟨rfl, hb⟩
    have H2 := Lib.hid hb
    clear HT hb
    go_wp2
    go_ret
    rw [HB.out]
    exact ⟨rfl, H2.out⟩
set_option maxHeartbeats 800000 in
theorem drop_nil (i : Int) (w : World) : Calls Try.prog 16 #[.pointer none, .int .i64 i] w fun e w' => e = .returned (.int .i64 15) ∧ w = w' := by
  have HA := Lib.hid (ask_nil i w)
  go_enter Try.func16, Try.ntmps16
  go_wp2_with fail
  refine HA.out.mono ?_
  rintro e w1 ⟨rfl, rfl⟩
  clear HA
  go_wp2
  go_ret
  exact ⟨rfl, rfl⟩
end Go.Proofs.Ytlblkakjbjmciaa.Bg
