/- Layer 17: the law BagTurns. -/
import Derived.Test.YtlblkakjbjmciaaIl
namespace Go.Proofs.Ytlblkakjbjmciaa.Bg
open Go.RowKit Go.Proofs.Ytlblkakjbjmciaa.Wi
set_option maxRecDepth 100000

/-- what may stand in a bag into which s was put -/
def ofS (s : Bytes) (L : Bag) : Prop := ∀ p ∈ L, p = (s, false) ∨ ∃ n, n < 8 * s.length ∧ p = (turnC s n, true)
theorem turnC_len (s : Bytes) (n : Nat) : (turnC s n).length = s.length := by unfold turnC; split <;> simp
theorem ofS_len {s : Bytes} {L : Bag} (h : ofS s L) : ∀ p ∈ L, p.1.length = s.length := fun p hp => by
  rcases h p hp with rfl | ⟨n, _, rfl⟩
  · rfl
  · exact turnC_len s n
theorem ofS_turn {s : Bytes} {L : Bag} (h : ofS s L) (i bit : Int) : ofS s (turnB L i bit) := by
  unfold turnB
  split
  · next h0 =>
    intro p hp
    unfold turnE at h0
    by_cases hi : i < 0 ∨ (L.length : Int) ≤ i
    · rw [if_pos hi] at h0; cases h0
    rw [if_neg hi] at h0
    by_cases hb : bit < 0
    · rw [if_pos hb] at h0; cases h0
    rw [if_neg hb] at h0
    by_cases he : (fn L i.toNat).1 = []
    · rw [if_pos he] at h0; cases h0
    rw [if_neg he] at h0
    by_cases ht : (fn L i.toNat).2 = true
    · rw [if_pos ht] at h0; cases h0
    have hk : i.toNat < L.length := by omega
    rcases List.mem_or_eq_of_mem_set hp with h1 | h1
    · exact h p h1
    · rw [fn_at hk] at h1 he ht
      rcases h _ (List.getElem_mem hk) with h2 | ⟨n, _, h2⟩
      · rw [h2] at h1 he
        have hpos : 0 < s.length := by
          rcases Nat.eq_zero_or_pos s.length with h3 | h3
          · exact absurd (List.eq_nil_of_length_eq_zero h3) he
          · exact h3
        exact Or.inr ⟨_, Nat.mod_lt _ (by omega), h1⟩
      · rw [h2] at ht; exact absurd rfl ht
  · exact h
theorem ofS_twice {s : Bytes} {L : Bag} (h : ofS s L) (i : Int) : ofS s (twiceB L i) := by
  unfold twiceB
  split
  · exact h
  · next hi =>
    have hk : i.toNat < L.length := by omega
    unfold putB
    split
    · intro p hp
      rcases List.mem_append.1 hp with h1 | h1
      · exact h p h1
      · rw [List.mem_singleton.1 h1, fn_at hk]
        exact h _ (List.getElem_mem hk)
    · exact h
/-- two texts part in one bit at most: at P, by q -/
def Parts (s t : Bytes) (P q : Nat) : Prop := t.length = s.length ∧ q < 8 ∧ ∀ i (h1 : i < s.length) (h2 : i < t.length), s[i] ^^^ t[i] = if i = P then UInt8.ofNat (2 ^ q) else 0
theorem ofS_parts {s : Bytes} {L : Bag} (h : ofS s L) {p : Bytes × Bool} (hp : p ∈ L) : ∃ P q, Parts s p.1 P q := by
  rcases h p hp with rfl | ⟨n, hn, rfl⟩
  · exact ⟨s.length, 0, rfl, by decide, fun i h1 h2 => by rw [if_neg (by omega), UInt8.xor_self]⟩
  · refine ⟨n / 8, n % 8, turnC_len s n, Nat.mod_lt _ (by decide), fun i h1 h2 => ?_⟩
    have hn8 : n / 8 < s.length := by omega
    have ht : turnC s n = s.set (n / 8) (s[n / 8] ^^^ UInt8.ofNat (2 ^ (n % 8))) := by unfold turnC; rw [List.getElem?_eq_getElem hn8]
    simp only [ht]
    by_cases e : i = n / 8
    · subst e
      rw [if_pos rfl, List.getElem_set_self, ← UInt8.xor_assoc, UInt8.xor_self, UInt8.zero_xor]
    · rw [if_neg e, List.getElem_set_ne (fun k => e k.symm), UInt8.xor_self]
/-- how many of the first i bytes part -/
def cntP (P i : Nat) : Nat := if P < i then 1 else 0
/-- a slice of whole numbers that is read -/
def RdI (w : World) (v : Value) (l : List Int) : Prop := ∃ (A : Option Addr) (c : Nat), v = .slice A l.length c ∧ ∀ i (h : i < l.length), ∃ ad, A = some ad ∧ w.cell? (ad.add i) = some (.int .i64 l[i])
theorem RdI.later {w w1 : World} {v : Value} {l : List Int} (h : RdI w v l) (hb : Below w.heap.size w w1) : RdI w1 v l := by
  obtain ⟨A, c, rfl, hc⟩ := h
  refine ⟨A, c, rfl, fun i hi => ?_⟩
  obtain ⟨ad, ha, h2⟩ := hc i hi
  have hlt := World.block_lt_of_cell? w _ h2
  exact ⟨ad, ha, (World.cell?_of_block (hb.block _ hlt)).trans h2⟩
theorem and_less (x : Nat) (hx : x = 1 ∨ x = 2 ∨ x = 4 ∨ x = 8 ∨ x = 16 ∨ x = 32 ∨ x = 64 ∨ x = 128) : bits .and .u8 (x : Int) (((x : Nat) : Int) - 1) = 0 := by
  rcases hx with rfl | rfl | rfl | rfl | rfl | rfl | rfl | rfl <;> decide
theorem two_pow {q : Nat} (h : q < 8) : 2 ^ q = 1 ∨ 2 ^ q = 2 ∨ 2 ^ q = 4 ∨ 2 ^ q = 8 ∨ 2 ^ q = 16 ∨ 2 ^ q = 32 ∨ 2 ^ q = 64 ∨ 2 ^ q = 128 := by
  rcases (show q = 0 ∨ q = 1 ∨ q = 2 ∨ q = 3 ∨ q = 4 ∨ q = 5 ∨ q = 6 ∨ q = 7 by omega) with rfl | rfl | rfl | rfl | rfl | rfl | rfl | rfl <;> decide
theorem at_l (s : ByteArray) (k : Nat) (_h : k < s.size) (h' : k < s.data.toList.length) : s.data.toList[k] = s[k] := by simp; rfl
set_option maxHeartbeats 6400000 in
theorem turns_law (v : Value) (l : List Int) (s : ByteArray) (w : World) (hv : RdI w v l) (hl : l.length ≤ 140737488355328) (hz : ∀ z ∈ l, z ≤ 9223372036854775807) (hs : s.size ≤ 281474976710656) :
    Calls Try.prog 4 #[.string s, v] w fun e w' => e = .returned (.bool true) ∧ Below w.heap.size w w' := by
  have HW := Lib.hid wakes_any
  have HV := Lib.hid (fun W (hW : Below w.heap.size w W) => RdI.later hv hW)
  obtain ⟨A, c, rfl, _⟩ := hv
  obtain ⟨n, hn⟩ : ∃ n, n = l.length := ⟨_, rfl⟩
  have HN := Lib.hid hn; have HZ := Lib.hid hz
  rw [← hn] at hl
  rw [← hn]
  have hslen : s.data.toList.length = s.size := (Lib.size_eq s).symm
  have HSL := Lib.hid hslen
  clear hn hz hslen
  by_cases h50 : 50 < n
  · have h1 : (50 : Int) < n := by omega
    have h2 : decide ((50 : Int) < n) = true := decide_eq_true h1
    go_enter Try.func4, Try.ntmps4
    go_wp2_with fail
    refine (HW.out _).mono ?_
    rintro e w1 ⟨rfl, hb1⟩
    have HB1 := Lib.hid hb1
    clear hb1 HW
    go_wp2
    go_ret
    exact ⟨rfl, HB1.out⟩
  have h1 : ¬ (50 : Int) < n := by omega
  have h2 : decide ((50 : Int) < n) = false := decide_eq_false h1
  by_cases h2000 : 2000 < s.size
  · have h3 : (2000 : Int) < s.size := by omega
    have h4 : decide ((2000 : Int) < s.size) = true := decide_eq_true h3
    go_enter Try.func4, Try.ntmps4
    go_wp2_with fail
    refine (HW.out _).mono ?_
    rintro e w1 ⟨rfl, hb1⟩
    have HB1 := Lib.hid hb1
    clear hb1 HW
    go_wp2
    go_ret
    exact ⟨rfl, HB1.out⟩
  have h3 : ¬ (2000 : Int) < s.size := by omega
  have h4 : decide ((2000 : Int) < s.size) = false := decide_eq_false h3
  go_enter Try.func4, Try.ntmps4
  go_wp2_with fail
  refine (HW.out _).mono ?_
  rintro e w1 ⟨rfl, hb1⟩
  have HB1 := Lib.hid hb1
  have HNew := Lib.hid (new_any w1)
  obtain ⟨K, hK⟩ : ∃ K, K = w1.heap.size := ⟨_, rfl⟩
  rw [← hK] at HNew
  have hwK : w.heap.size ≤ K := by rw [hK]; exact hb1.size
  have HPut : Hid (∀ W, BagAt K [] W → Calls Try.prog 8 #[.pointer (some ⟨K, 0, none⟩), .string s] W fun e w' => e = .returned (.bool true) ∧ BagAt K [(s.data.toList, false)] w' ∧ Fr K W w') := fun W h => put_any h s hs
  clear hb1 HW hK
  unfold bp at *
  go_wp2_with fail
  refine HNew.out.mono ?_
  rintro e w2 ⟨rfl, hb2, hw2⟩
  have hw02 : Below w.heap.size w w2 := HB1.out.trans (hw2.mono hwK)
  have H2 := Lib.hid (⟨hb2, hw02⟩ : _ ∧ _)
  clear HNew hb2 hw2 hw02 HB1
  go_wp2_with fail
  refine (HPut.out _ H2.out.1).mono ?_
  rintro e w3 ⟨rfl, hb3, hf3⟩
  have H0 : Hid (∃ L, BagAt K L w3 ∧ ofS s.data.toList L ∧ Below w.heap.size w w3) := ⟨_, hb3, fun p hp => Or.inl (List.mem_singleton.1 hp), H2.out.2.trans ⟨hf3.os, hf3.tape, hf3.output, hf3.size, fun k hk => hf3.block k (by have := H2.out.2.size; omega) (fun e => by cases e; omega)⟩⟩
  clear HPut H2 hb3 hf3
  go_wp2
  go_loopw [28] (fun x28 wr => ∃ j : Nat, j ≤ n ∧ x28 = .int .i64 j ∧ Hid (∃ L, BagAt K L wr ∧ ofS s.data.toList L ∧ Below w.heap.size w wr)) (fun x _ => n - (intOf x).toNat)
  case atStart => exact ⟨0, by omega, rfl, H0⟩
  case round =>
    clear H0
    obtain ⟨j, hj, rfl, HH⟩ := hrel
    obtain ⟨W, hW⟩ : ∃ W, W = wr := ⟨_, rfl⟩
    subst hW
    obtain ⟨L, hL1, hL2, hL3⟩ := HH.out
    have hsm : ∀ p ∈ L, p.1.length ≤ 281474976710656 := fun p hp => by rw [ofS_len hL2 p hp, HSL.out]; omega
    clear HH
    by_cases hlt : j < n
    · have hlt2 : (j : Int) < (n : Int) := by omega
      have hjl : j < l.length := by rw [← HN.out]; exact hlt
      obtain ⟨_, _, he, hc⟩ := HV.out W hL3
      cases he
      obtain ⟨ad, rfl, hcj⟩ := hc j hjl
      have hzj := HZ.out l[j] (List.getElem_mem hjl)
      generalize l[j] = z at *
      have hwr : IntKind.i64.wrap (j : Int) = (j : Int) := IntWalk.i64_in _ (by omega)
      obtain ⟨i2, hi2⟩ : ∃ i2 : Int, i2 = (j : Int) % 2 := ⟨_, rfl⟩
      have HI2 := Lib.hid hi2
      clear hi2
      have HT := Lib.hid (turn_any hL1 hsm i2 z hzj)
      have HL2 := Lib.hid (ofS_turn hL2 i2 z); have HL3 := Lib.hid hL3
      generalize turnE L i2 z = te at *
      generalize turnB L i2 z = L2 at *
      clear hc hjl hL1 hsm hL2 hL3 hzj
      unfold bp at *
      go_wp2_with fail
      rw [← HI2.out]
      refine HT.out.mono ?_
      rintro e w4 ⟨rfl, hb4, hf4⟩
      have HC := Lib.hid (twice_any hb4 0)
      have HT2 := Lib.hid (ofS_twice HL2.out 0)
      have HF4 := Lib.hid hf4
      clear HT hb4 hf4 HL2
      generalize twiceE L2 0 = te2 at *
      generalize twiceB L2 0 = L4 at *
      unfold bp at *
      go_wp2_with fail
      refine HC.out.mono ?_
      rintro e w5 ⟨rfl, hb5, hf5⟩
      have HH2 : Hid (∃ L, BagAt K L w5 ∧ ofS s.data.toList L ∧ Below w.heap.size w w5) := ⟨L4, hb5, HT2.out, by
        have h6 := HF4.out.trans hf5
        have h7 := HL3.out
        exact h7.trans ⟨h6.os, h6.tape, h6.output, h6.size, fun k hk => h6.block k (by have := h7.size; omega) (fun e => by cases e; omega)⟩⟩
      clear HC HT2 HF4 hb5 hf5 HL3
      go_wp2
      go_roundw
      case rel => exact ⟨j + 1, by omega, by first | rfl | go_num, HH2⟩
      case measure => simp [intOf]; omega
    · obtain rfl : n = j := by omega
      have hlt2 : ¬ (n : Int) < (n : Int) := by omega
      have hle := hL1.le
      have HA := Lib.hid (all_any hL1 hsm)
      have HL2 := Lib.hid hL2; have HL3 := Lib.hid hL3
      obtain ⟨m, hm⟩ : ∃ m, m = L.length := ⟨_, rfl⟩
      rw [← hm] at HA hle
      have HM := Lib.hid hm
      clear hL1 hsm hL2 hL3 hm HV HZ HN
      unfold bp at *
      go_wp2_with fail
      refine HA.out.mono ?_
      rintro e w4 ⟨v4, rfl, ho, hb4⟩
      obtain ⟨A4, c4, rfl⟩ := own_shape ho
      have HR := Lib.hid (RdS.own ho (L := L.map Prod.fst) (by unfold txtV; rw [List.map_map]; rfl))
      have HB4 := Lib.hid (HL3.out.trans (hb4.mono HL3.out.size))
      clear ho hb4 HA HL3
      go_wp2
      go_loopw [45] (fun x45 wr => ∃ j k : Nat, j ≤ m ∧ x45 = .int .i64 j ∧ wr = w4.drewN k) (fun x _ => m - (intOf x).toNat)
      case atStart => exact ⟨0, 0, by omega, rfl, rfl⟩
      case round =>
        obtain ⟨j, k, hj, rfl, rfl⟩ := hrel
        by_cases hlt : j < m
        · have hlt3 : (j : Int) < (m : Int) := by omega
          have hjl : j < L.length := by rw [← HM.out]; exact hlt
          obtain ⟨_, _, he, hc⟩ := HR.out
          have hlm : (L.map Prod.fst).length = m := by rw [List.length_map, HM.out]
          rw [hlm] at he
          cases he
          obtain ⟨ad, rfl, hcj⟩ := hc j (by rw [hlm]; exact hlt)
          obtain ⟨P, q, hP⟩ := ofS_parts HL2.out (List.getElem_mem hjl)
          obtain ⟨T, hT, hTl, hTz⟩ := bS_eq (L[j]).1
          rw [List.getElem_map, hT] at hcj
          rw [← hTl] at hP
          have hTs : T.size = s.size := by rw [hTz, ← hTl, hP.1, HSL.out]
          have HP := Lib.hid hP
          have hwr : IntKind.i64.wrap (j : Int) = (j : Int) := IntWalk.i64_in _ (by omega)
          have hTi : (T.size : Int) = (s.size : Int) := by omega
          have hbne : ((s.size : Int) != (s.size : Int)) = false := by simp
          clear hc hlm hjl hT hTl hTz hP
          go_wp2
          go_loopw [9, 56] (fun x9 x56 wr => ∃ i k : Nat, i ≤ s.size ∧ x56 = .int .i64 i ∧ x9 = .int .i64 (cntP P i : Nat) ∧ wr = w4.drewN k) (fun _ x _ => s.size - (intOf x).toNat)
          case atStart => exact ⟨0, k, by omega, rfl, rfl, rfl⟩
          case round =>
            obtain ⟨i, k2, hi, rfl, rfl, rfl⟩ := hrel
            by_cases his : i < s.size
            · have hisi : (i : Int) < (s.size : Int) := by omega
              have hiT : i < T.size := by omega
              have hp := HP.out.2.2 i (by rw [HSL.out]; exact his) (by rw [← Lib.size_eq]; exact hiT)
              rw [at_l s i his, at_l T i hiT] at hp
              have hwi : IntKind.i64.wrap (i : Int) = (i : Int) := IntWalk.i64_in _ (by omega)
              have hx : bits .xor .u8 ((s[i].toNat : Nat) : Int) ((T[i].toNat : Nat) : Int) = (((s[i] ^^^ T[i]).toNat : Nat) : Int) := by
                rw [u8_xor_nat _ _ (byte_lt8 _) (byte_lt8 _), UInt8.toNat_xor]
              rw [hp] at hx
              have hq8 := HP.out.2.1
              obtain ⟨X, hX⟩ : ∃ X : Nat, X = (if i = P then UInt8.ofNat (2 ^ q) else 0).toNat := ⟨_, rfl⟩
              rw [← hX] at hx
              have hXc : (X = 0 ∧ cntP P (i + 1) = cntP P i) ∨ ((X = 1 ∨ X = 2 ∨ X = 4 ∨ X = 8 ∨ X = 16 ∨ X = 32 ∨ X = 64 ∨ X = 128) ∧ cntP P (i + 1) = cntP P i + 1) := by
                unfold cntP
                by_cases e : i = P
                · right
                  rw [if_pos e, UInt8.toNat_ofNat'] at hX
                  have h2 : 2 ^ q < 2 ^ 8 := Nat.pow_lt_pow_right (by decide) hq8
                  rw [Nat.mod_eq_of_lt h2] at hX
                  exact ⟨by rw [hX]; exact two_pow hq8, by rw [if_pos (by omega), if_neg (by omega)]⟩
                · left
                  rw [if_neg e] at hX
                  exact ⟨hX, by by_cases h : P < i <;> simp [h] <;> omega⟩
              obtain ⟨c1, hc1⟩ : ∃ c1, c1 = cntP P i := ⟨_, rfl⟩
              obtain ⟨c2, hc2⟩ : ∃ c2, c2 = cntP P (i + 1) := ⟨_, rfl⟩
              have hcs : c1 ≤ 1 := by rw [hc1]; unfold cntP; split <;> decide
              have HC2 := Lib.hid hc2
              rw [← hc1]
              rw [← hc1, ← hc2] at hXc
              have HX := Lib.hid hx; have HXC := Lib.hid hXc
              clear hx hXc hX hp hq8 hc1 hc2
              go_upto_region 22 with fail
              go_region
              rw [HX.out]
              go_wp2
              go_loopw [9, 11] (fun x9 x11 wr => wr = w4.drewN (k2 + 1) ∧ ∃ Z d : Nat, x11 = .int .u8 Z ∧ x9 = .int .i64 d ∧ Hid (d ≤ 1 ∧ ((Z = 0 ∧ d = c2) ∨ ((Z = 1 ∨ Z = 2 ∨ Z = 4 ∨ Z = 8 ∨ Z = 16 ∨ Z = 32 ∨ Z = 64 ∨ Z = 128) ∧ d + 1 = c2)))) (fun _ x _ => (intOf x).toNat)
              case atStart => exact ⟨rfl, X, c1, rfl, rfl, Lib.hid ⟨hcs, by rcases HXC.out with ⟨h1, h2⟩ | ⟨h1, h2⟩; exact Or.inl ⟨h1, h2.symm⟩; exact Or.inr ⟨h1, h2.symm⟩⟩⟩
              case round =>
                obtain ⟨rfl, Z, d, rfl, rfl, HZ⟩ := hrel
                obtain ⟨hd1, hZ⟩ := HZ.out
                rcases hZ with ⟨rfl, rfl⟩ | ⟨hZ, hd⟩
                · have hz0 : (((0 : Nat) : Int) != 0) = false := rfl
                  go_wp2
                  go_roundw
                  case rel => exact ⟨i + 1, k2 + 1, by omega, by first | rfl | go_num, by rw [HC2.out], rfl⟩
                  case measure => simp [intOf]; omega
                · have hz1 : ((Z : Int) != 0) = true := by rcases hZ with rfl | rfl | rfl | rfl | rfl | rfl | rfl | rfl <;> rfl
                  have hz2 : 1 ≤ Z ∧ Z ≤ 128 := by omega
                  have hz3 : IntKind.u8.wrap ((Z : Int) - 1) = (Z : Int) - 1 := by unfold IntKind.wrap; simp [IntKind.signed, IntKind.bits]; omega
                  have hz4 : ((Z : Int) - 1) % 256 = (Z : Int) - 1 := by omega
                  have hz5 := and_less Z hZ
                  have hwd : IntKind.i64.wrap ((d : Int) + 1) = ((d + 1 : Nat) : Int) := by rw [IntWalk.i64_in _ (by omega)]; rfl
                  have HZ2 : Hid (d + 1 ≤ 1 ∧ ((0 = 0 ∧ d + 1 = c2) ∨ ((0 = 1 ∨ 0 = 2 ∨ 0 = 4 ∨ 0 = 8 ∨ 0 = 16 ∨ 0 = 32 ∨ 0 = 64 ∨ 0 = 128) ∧ d + 1 + 1 = c2))) := ⟨by
                    have hc2 : c2 ≤ 1 := by rw [HC2.out]; unfold cntP; split <;> decide
                    omega, Or.inl ⟨rfl, hd⟩⟩
                  clear hZ hd HZ
                  go_wp2
                  go_roundw
                  case rel => exact ⟨by first | rfl | trivial, 0, d + 1, rfl, by first | rfl | go_num, HZ2⟩
                  case measure => simp [intOf]; omega
            · obtain rfl : s.size = i := by omega
              have hisi : ¬ (s.size : Int) < (s.size : Int) := by omega
              have hc1 : (cntP P s.size : Int) ≤ 1 := by unfold cntP; split <;> decide
              generalize cntP P s.size = cc at *
              have hc2 : ¬ (1 : Int) < cc := by omega
              go_wp2
              go_roundw
              case rel => exact ⟨j + 1, k2, by omega, by first | rfl | go_num, rfl⟩
              case measure => simp [intOf]; omega
        · obtain rfl : m = j := by omega
          have hlt3 : ¬ (m : Int) < (m : Int) := by omega
          go_wp2
          go_ret
          exact ⟨rfl, below_drewN HB4.out _⟩
end Go.Proofs.Ytlblkakjbjmciaa.Bg
