/- Layer 17: a bit of a text is turned. -/
import Derived.Test.YtlblkakjbjmciaaIa
import Derived.Laws.IdiomStrings
import Derived.Laws.BytesString
import Derived.Lib.Strings
import Derived.Laws.ShiftsVarLaws
import Derived.Laws.Shifts
namespace Go.Proofs.Ytlblkakjbjmciaa.Bg
open Go.RowKit Go.Proofs.Ytlblkakjbjmciaa.Wi
set_option maxRecDepth 100000

/-- bytes in a row -/
structure BRow (K : Nat) (L : Bytes) (W : World) : Prop where
  cell : ∀ j (h : j < L.length), W.cell? ⟨K, j, none⟩ = some (.int .u8 (L[j].toNat : Nat))
  froz : ∀ j, j < L.length → W.frozen? ⟨K, j, none⟩ = false
theorem BRow.set {K : Nat} {L : Bytes} {W : World} (h : BRow K L W) {p : Nat} (hp : p < L.length) (v : UInt8) : BRow K (L.set p v) (W.setCell ⟨K, p, none⟩ (.int .u8 (v.toNat : Nat))) := by
  refine ⟨fun j hj => ?_, fun j hj => ?_⟩
  · have hj2 : j < L.length := by simpa using hj
    by_cases e : p = j
    · subst e
      rw [World.cell?_setCell_same W _ _ (h.cell p hp), List.getElem_set_self]
    · rw [World.cell?_setCell_other W (a := ⟨K, p, none⟩) (b := ⟨K, j, none⟩) _ (by intro k; injection k with _ k _; exact e k), List.getElem_set_ne e]
      exact h.cell j hj2
  · rw [World.frozen?_setCell]
    exact h.froz j (by simpa using hj)
set_option maxHeartbeats 1600000 in
theorem turned_any (s : ByteArray) (h0 : 0 < s.size) (hs : s.size ≤ 281474976710656) (bit : Nat) (hb : bit ≤ 9223372036854775807) (w : World) :
    Calls Try.prog 20 #[.string s, .int .i64 bit] w fun e w' => e = .returned (bS (turnC s.data.toList (bit % (8 * s.size)))) ∧ Below w.heap.size w w' := by
  have hslen : s.data.toList.length = s.size := (Lib.size_eq s).symm
  have hcv := run_bytes_of_string (P := Try.prog) w 9 50 5 s Try.underlying9 Try.underlying50 Try.underlying5
  obtain ⟨C, hC⟩ : ∃ C, C = grownCap w s.size 0 5 := ⟨_, rfl⟩
  rw [← hC] at hcv
  have hrow := fun j hj => bytesRow_at s C j hj
  have hrs : s.size ≤ (bytesRow s C).size := by unfold bytesRow; simp
  generalize bytesRow s C = R at *
  obtain ⟨w4, hw4⟩ : ∃ W, W = w.drew.alloc (.cells R 5 (R.size, R.size + 1)) := ⟨_, rfl⟩
  rw [← hw4] at hcv
  have hb4 : Below w.heap.size w w4 := by rw [hw4]; exact ((Below.refl _ _).alloc (Nat.le_refl _) _).drew
  have hbk : w4.heap[w.heap.size]? = some (.cells R 5 (R.size, R.size + 1)) := by rw [hw4]; exact heap_alloc_new w.drew _
  have hbr : BRow w.heap.size s.data.toList w4 := by
    refine ⟨fun j hj => ?_, fun j hj => ?_⟩
    · have hj2 : j < s.data.size := by simpa using hj
      have := hrow j hj2
      exact (cell_of_row w4 _ j _ _ _ hbk).trans this
    · have hj2 : j < R.size := by omega
      simp [World.frozen?, hbk]
      omega
  obtain ⟨Q, hQ⟩ : ∃ Q, Q = w.heap.size := ⟨_, rfl⟩
  rw [← hQ] at hcv hbr
  obtain ⟨n, hn⟩ : ∃ n, n = bit % (8 * s.size) := ⟨_, rfl⟩
  have hn2 : n < 8 * s.size := by rw [hn]; exact Nat.mod_lt _ (by omega)
  have hn8 : n / 8 < s.data.toList.length := by omega
  obtain ⟨c, hc⟩ : ∃ c, c = s.data.toList[n / 8]'hn8 := ⟨_, rfl⟩
  have hbc := hbr.cell (n / 8) hn8
  have hbf := hbr.froz (n / 8) hn8
  rw [← hc] at hbc
  have hturn : turnC s.data.toList n = s.data.toList.set (n / 8) (c ^^^ UInt8.ofNat (2 ^ (n % 8))) := by
    unfold turnC
    rw [List.getElem?_eq_getElem hn8, ← hc]
  have hset := hbr.set hn8 (c ^^^ UInt8.ofNat (2 ^ (n % 8)))
  rw [← hturn] at hset
  have HREM : Hid ((bit : Int) % (8 * (s.size : Int)) = (n : Int)) := by rw [hn]; rfl
  rw [← hn]
  have HSET := Lib.hid hset; have HB4 := Lib.hid hb4; have HQ := Lib.hid hQ
  clear hrow hrs hw4 hb4 hbk hC hbr hn hc hturn hset hQ
  go_enter Try.func20, Try.ntmps20
  go_upto_region 3 with fail
  rw [show (bit : Int) % (8 * (s.size : Int)) = (n : Int) from HREM.out]
  have hd8 : (n : Int) / 8 = ((n / 8 : Nat) : Int) := by omega
  have hlt : n / 8 < s.size := by omega
  have hlti : ((n / 8 : Nat) : Int) < (s.size : Int) := by omega
  have hm8 : (n : Int) % 8 = ((n % 8 : Nat) : Int) := by omega
  have hq8 : n % 8 < 8 := Nat.mod_lt _ (by decide)
  generalize n / 8 = p at *
  generalize n % 8 = q at *
  obtain ⟨V, hV⟩ : ∃ V, V = UInt8.ofNat (2 ^ q) := ⟨_, rfl⟩
  have hVn : V.toNat = 2 ^ q := by
    have h2 : 2 ^ q < 2 ^ 8 := Nat.pow_lt_pow_right (by decide) hq8
    rw [hV, UInt8.toNat_ofNat', Nat.mod_eq_of_lt h2]
  have hx : bits .xor .u8 ((c.toNat : Nat) : Int) (2 ^ min q 8 % 256) = (((c ^^^ V).toNat : Nat) : Int) := by
    have h2 : 2 ^ q < 2 ^ 8 := Nat.pow_lt_pow_right (by decide) hq8
    have h3 : ((2 ^ q : Nat) : Int) = 2 ^ q := by push_cast; rfl
    rw [Nat.min_eq_left (by omega), ← h3, show (((2 ^ q : Nat) : Int) % 256) = ((V.toNat : Nat) : Int) by rw [hVn]; omega]
    rw [u8_xor_nat _ _ (byte_lt8 c) (byte_lt8 V), UInt8.toNat_xor]
  rw [← hV] at HSET
  clear hVn hV
  generalize c ^^^ V = X at *
  obtain ⟨W, hW⟩ : ∃ W, W = w4.setCell ⟨Q, p, none⟩ (.int .u8 ((X.toNat : Nat) : Int)) := ⟨_, rfl⟩
  rw [← hW] at HSET
  have hbW : Below w.heap.size w W := by rw [hW]; exact HB4.out.setCell (by rw [HQ.out]; exact Nat.le_refl _) _
  obtain ⟨L, hL⟩ : ∃ L, L = turnC s.data.toList n := ⟨_, rfl⟩
  rw [← hL] at HSET
  have hLl : L.length = s.size := by rw [hL]; unfold turnC; split <;> simp [hslen]
  have hkc : Sem.run Try.prog (convert 50 9 (.slice (some ⟨Q, 0, none⟩) s.size C)) W = .ok (.string ⟨L.toArray⟩) W := by
    have := run_convert_bytes_back (P := Try.prog) W 50 9 5 ⟨Q, 0, none⟩ C L Try.underlying50 Try.underlying5 Try.underlying9 (fun j hj => by
      have e : (⟨Q, 0, none⟩ : Addr).add j = ⟨Q, j, none⟩ := by
        unfold Addr.add
        by_cases h : j = 0 <;> simp [h]
      rw [e]; exact HSET.out.cell j hj)
    rw [hLl] at this
    exact this
  have hbS : Hid (bS (turnC s.data.toList n) = .string ⟨L.toArray⟩) := by rw [← hL]; exact rfl
  generalize (⟨L.toArray⟩ : ByteArray) = U at *
  have HW := Lib.hid hW; have HBW := Lib.hid hbW
  clear hW hbW hL hLl hslen HSET hn2 hn8 HREM HB4
  go_upto_region 4 with fail
  rw [← HW.out]
  go_wp2
  go_ret
  rw [hbS.out]
  exact ⟨rfl, HBW.out⟩
end Go.Proofs.Ytlblkakjbjmciaa.Bg
