/- Layer 17: Turn. -/
import Derived.Test.YtlblkakjbjmciaaIe
import Derived.Test.YtlblkakjbjmciaaIh
namespace Go.Proofs.Ytlblkakjbjmciaa.Bg
open Go.RowKit Go.Proofs.Ytlblkakjbjmciaa.Wi
set_option maxRecDepth 100000

def turnE (L : Bag) (i bit : Int) : Int := if i < 0 ∨ (L.length : Int) ≤ i then 5 else if bit < 0 then 5 else if (fn L i.toNat).1 = [] then 1 else if (fn L i.toNat).2 = true then 3 else 0
def turnB (L : Bag) (i bit : Int) : Bag := if turnE L i bit = 0 then L.set i.toNat (turnC (fn L i.toNat).1 (bit.toNat % (8 * (fn L i.toNat).1.length)), true) else L
theorem no_text {S : ByteArray} (h : S.data.toList = []) : (S.toList == []) = true ∧ S.toList = [] ∧ S.toList.isEmpty = true := by
  rw [Lib.toList_data, h]
  exact ⟨rfl, rfl, rfl⟩
theorem some_text {S : ByteArray} (h : S.data.toList ≠ []) : (S.toList == []) = false ∧ S.toList ≠ [] ∧ S.toList.isEmpty = false := by
  rw [Lib.toList_data]
  refine ⟨beq_eq_false_iff_ne.2 h, h, ?_⟩
  cases hq : S.data.toList with
  | nil => exact absurd hq h
  | cons a r => rfl
set_option maxHeartbeats 3200000 in
theorem turn_any {K : Nat} {L : Bag} {w : World} (h : BagAt K L w) (hs : ∀ p ∈ L, p.1.length ≤ 281474976710656) (i bit : Int) (hbit : bit ≤ 9223372036854775807) :
    Calls Try.prog 12 #[bp K, .int .i64 i, .int .i64 bit] w fun e w' => e = .returned (.int .i64 (turnE L i bit)) ∧ BagAt K (turnB L i bit) w' ∧ Fr K w w' := by
  have HA := Lib.hid (ask_any h i)
  by_cases hi : i < 0 ∨ (L.length : Int) ≤ i
  · have h1 : askE L i = 5 := if_pos hi
    have hE : turnE L i bit = 5 := if_pos hi
    have HB : Hid (turnB L i bit = L) := if_neg (by rw [hE]; decide)
    have HE := Lib.hid hE
    have H := Lib.hid h
    rw [h1] at HA
    clear hi h1 h hs hbit hE
    unfold bp at *
    go_enter Try.func12, Try.ntmps12
    go_wp2_with fail
    refine HA.out.mono ?_
    rintro e w1 ⟨rfl, rfl⟩
    clear HA
    go_wp2
    go_ret
    rw [HE.out, HB.out]
    exact ⟨rfl, H.out, Fr.refl _ _⟩
  have h1 : askE L i = 0 := if_neg hi
  obtain ⟨k, rfl⟩ : ∃ k : Nat, i = k := ⟨i.toNat, by omega⟩
  have hk : k < L.length := by omega
  have hle := h.le
  have hk16 : k < 16 := by omega
  have hwr : IntKind.i64.wrap (k : Int) = (k : Int) := IntWalk.i64_in _ (by omega)
  have hE1 : turnE L k bit = if bit < 0 then 5 else if (fn L k).1 = [] then 1 else if (fn L k).2 = true then 3 else 0 := if_neg hi
  rw [h1] at HA
  clear hi h1
  by_cases hneg : bit < 0
  · have hE : turnE L k bit = 5 := by rw [hE1, if_pos hneg]
    have HB : Hid (turnB L k bit = L) := if_neg (by rw [hE]; decide)
    have HE := Lib.hid hE
    have H := Lib.hid h
    have hd : decide (bit < 0) = true := decide_eq_true hneg
    clear h hs hbit hE hE1 hk hle
    unfold bp at *
    go_enter Try.func12, Try.ntmps12
    go_wp2_with fail
    refine HA.out.mono ?_
    rintro e w1 ⟨rfl, rfl⟩
    clear HA
    go_wp2
    go_ret
    rw [HE.out, HB.out]
    exact ⟨rfl, H.out, Fr.refl _ _⟩
  rw [if_neg hneg] at hE1
  have hd : decide (bit < 0) = false := decide_eq_false hneg
  obtain ⟨n, rfl⟩ : ∃ n : Nat, bit = n := ⟨bit.toNat, by omega⟩
  obtain ⟨S, hS, hSl, hSz⟩ := bS_eq (fn L k).1
  have c0 : w.cell? ⟨K, k * 2, none⟩ = some (.string S) := by rw [h.box.txt k hk16, hS]
  have c1 : w.cell? ⟨K, k * 2 + 1, none⟩ = some (.bool (fn L k).2) := h.box.trn k hk16
  by_cases hemp : (fn L k).1 = []
  · have hE : turnE L k n = 1 := by rw [hE1, if_pos hemp]
    have HB : Hid (turnB L k n = L) := if_neg (by rw [hE]; decide)
    have HE := Lib.hid hE
    have H := Lib.hid h
    obtain ⟨t1, t2, t3⟩ := no_text (hSl.trans hemp)
    clear h hs hbit hE hE1 hk hle hS hSl hSz hemp
    unfold bp at *
    go_enter Try.func12, Try.ntmps12
    go_wp2_with fail
    refine HA.out.mono ?_
    rintro e w1 ⟨rfl, rfl⟩
    clear HA
    go_wp2
    go_ret
    rw [HE.out, HB.out]
    exact ⟨rfl, H.out, Fr.refl _ _⟩
  rw [if_neg hemp] at hE1
  obtain ⟨t1, t2, t3⟩ := some_text (S := S) (by rw [hSl]; exact hemp)
  cases htr : (fn L k).2
  · rw [htr] at c1
    have hE : turnE L k n = 0 := by rw [hE1, htr]; rfl
    have hB : turnB L k n = L.set k (turnC S.data.toList (n % (8 * S.size)), true) := by
      unfold turnB
      rw [if_pos hE, Int.toNat_natCast, Int.toNat_natCast, hSl, hSz]
    have HE := Lib.hid hE
    have hsz := hs L[k] (List.getElem_mem hk)
    rw [← fn_at hk] at hsz
    have hpos : 0 < S.size := by
      rcases Nat.eq_zero_or_pos S.size with h0 | h0
      · exact absurd (List.eq_nil_of_length_eq_zero (by omega)) hemp
      · exact h0
    have ht := turned_any S hpos (by omega) n (by omega) w
    obtain ⟨T, hT, hTl, _⟩ := bS_eq (turnC S.data.toList (n % (8 * S.size)))
    rw [hT] at ht
    have hlen : (L.set k (turnC S.data.toList (n % (8 * S.size)), true)).length = L.length := List.length_set
    have HN : Hid (∀ w1, Below w.heap.size w w1 → (∃ u, w1.cell? ⟨K, k * 2, none⟩ = some u) ∧ (∃ u, (w1.setCell ⟨K, k * 2, none⟩ (.string T)).cell? ⟨K, k * 2 + 1, none⟩ = some u) ∧ w1.frozen? ⟨K, k * 2, none⟩ = false ∧ w1.frozen? ⟨K, k * 2 + 1, none⟩ = false ∧
        BagAt K (turnB L k n) ((w1.setCell ⟨K, k * 2, none⟩ (.string T)).setCell ⟨K, k * 2 + 1, none⟩ (.bool true)) ∧ Fr K w ((w1.setCell ⟨K, k * 2, none⟩ (.string T)).setCell ⟨K, k * 2 + 1, none⟩ (.bool true))) := fun w1 hb => by
      have hx := h.box.below hb
      have hb2 := hx.setBoth k hk16 (turnC S.data.toList (n % (8 * S.size)), true)
      have hb3 := hx.setTxt k hk16 (turnC S.data.toList (n % (8 * S.size)))
      simp only [hT] at hb2 hb3
      refine ⟨⟨_, hx.txt k hk16⟩, ⟨_, hb3.trn k hk16⟩, hx.fro _, hx.fro _, ⟨?_, ?_⟩, ((Fr.below hb).trans (Fr.set K _ _ _)).trans (Fr.set K _ _ _)⟩
      · rw [hB, hlen, ← fn_set L k _ hk]
        exact hb2
      · rw [hB, hlen]; exact hle
    have HT := Lib.hid ht
    clear h hs hbit hE hE1 hk hle hS hSl hSz hemp hsz hpos ht hTl hT hlen hB
    unfold bp at *
    go_enter Try.func12, Try.ntmps12
    go_wp2_with fail
    refine HA.out.mono ?_
    rintro e w1 ⟨rfl, rfl⟩
    clear HA
    go_wp2_with fail
    refine HT.out.mono ?_
    rintro e w1 ⟨rfl, hb⟩
    obtain ⟨⟨u0, d0⟩, ⟨u1, d1⟩, f0, f1, hF⟩ := HN.out w1 hb
    have HF := Lib.hid hF
    clear HN HT hb hF c0 c1
    go_wp2
    go_ret
    rw [HE.out]
    exact ⟨rfl, HF.out⟩
  · rw [htr] at c1
    have hE : turnE L k n = 3 := by rw [hE1, htr]; rfl
    have HB : Hid (turnB L k n = L) := if_neg (by rw [hE]; decide)
    have HE := Lib.hid hE
    have H := Lib.hid h
    clear h hs hbit hE hE1 hk hle hS hSl hSz hemp
    unfold bp at *
    go_enter Try.func12, Try.ntmps12
    go_wp2_with fail
    refine HA.out.mono ?_
    rintro e w1 ⟨rfl, rfl⟩
    clear HA
    go_wp2
    go_ret
    rw [HE.out, HB.out]
    exact ⟨rfl, H.out, Fr.refl _ _⟩
set_option maxHeartbeats 800000 in
theorem turn_nil (i bit : Int) (w : World) : Calls Try.prog 12 #[.pointer none, .int .i64 i, .int .i64 bit] w fun e w' => e = .returned (.int .i64 15) ∧ w = w' := by
  have HA := Lib.hid (ask_nil i w)
  go_enter Try.func12, Try.ntmps12
  go_wp2_with fail
  refine HA.out.mono ?_
  rintro e w1 ⟨rfl, rfl⟩
  clear HA
  go_wp2
  go_ret
  exact ⟨rfl, rfl⟩
end Go.Proofs.Ytlblkakjbjmciaa.Bg
