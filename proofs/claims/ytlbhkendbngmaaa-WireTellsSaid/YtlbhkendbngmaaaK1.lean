/- Layer 16: WireTurned's law with whole numbers, its parameter of type Turn opened. -/
import Derived.Test.YtlbhkendbngmaaaJ9
import Derived.OpenShut
import Derived.Laws.IdiomArrays
import Derived.ProofKit
import Derived.WideShapes
namespace Go.Proofs.Ytlbhkendbngmaaa.Wi
open Go.RowKit Go.ChangeShapes Go.WideShapes Go.ChangeAt
set_option maxRecDepth 100000

theorem byte_of (m : Int) (h0 : 0 ≤ m) (h1 : m ≤ 255) : ∃ u : UInt8, ((u.toNat : Nat) : Int) = m :=
  ⟨UInt8.ofNat m.toNat, by rw [UInt8.toNat_ofNat']; omega⟩
theorem turned_lawI (n : Int) (h0 : 0 ≤ n) (load : ByteArray) (a m0 m1 m2 m3 : Int) (ha : 0 ≤ a ∧ a ≤ 65535) (hm0 : 0 ≤ m0 ∧ m0 ≤ 255) (hm1 : 0 ≤ m1 ∧ m1 ≤ 255) (hm2 : 0 ≤ m2 ∧ m2 ≤ 255) (hm3 : 0 ≤ m3 ∧ m3 ≤ 255) (w : World) (hs : load.size ≤ 4611686018427387904) :
    Calls Try.prog 7 #[.int .u64 n, .string load, .agg #[.int .u16 a, .int .u8 m0, .int .u8 m1, .int .u8 m2, .int .u8 m3]] w fun e w' => e = .returned (.bool true) ∧ Below w.heap.size w w' := by
  obtain ⟨k, rfl⟩ := Int.eq_ofNat_of_zero_le h0
  obtain ⟨b, rfl⟩ := Int.eq_ofNat_of_zero_le ha.1
  obtain ⟨u0, rfl⟩ := byte_of m0 hm0.1 hm0.2
  obtain ⟨u1, rfl⟩ := byte_of m1 hm1.1 hm1.2
  obtain ⟨u2, rfl⟩ := byte_of m2 hm2.1 hm2.2
  obtain ⟨u3, rfl⟩ := byte_of m3 hm3.1 hm3.2
  exact turned_law k load b (by omega) u0 u1 u2 u3 w hs

theorem cellsTurn : Try.prog.cellsOf 52 = 5 := by kernel_rfl
theorem cellsA4 : Try.prog.cellsOf 50 = 4 := by kernel_rfl
theorem cellsU16 : Try.prog.cellsOf 49 = 1 := by kernel_rfl
theorem cellsU8 : Try.prog.cellsOf 5 = 1 := by kernel_rfl
theorem wf_u8 {n : Int} (h : (Lit.int .u8 n).wf = true) : 0 ≤ n ∧ n ≤ 255 := by
  have h1 : IntKind.u8.min = 0 := by kernel_rfl
  have h2 : IntKind.u8.max = 255 := by kernel_rfl
  simp [Lit.wf, h1, h2] at h
  omega
theorem wf_u16 {n : Int} (h : (Lit.int .u16 n).wf = true) : 0 ≤ n ∧ n ≤ 65535 := by
  have h1 : IntKind.u16.min = 0 := by kernel_rfl
  have h2 : IntKind.u16.max = 65535 := by kernel_rfl
  simp [Lit.wf, h1, h2] at h
  omega
theorem array5 {α : Type} {cs : Array α} (h : cs.size = 5) : ∃ c0 c1 c2 c3 c4, cs = #[c0, c1, c2, c3, c4] := by
  obtain ⟨l⟩ := cs
  match l, h with
  | [c0, c1, c2, c3, c4], _ => exact ⟨c0, c1, c2, c3, c4, rfl⟩

theorem open_turn {H : Type} {enc : TypeId × Value → H} {W : World} {r : Reach} {b0 : Nat} {v : Value} {d : DataW H} {ps : List MemPlace} (hval : Value.okWide Try.prog W r b0 52 v)
    (h : DataW.Trod enc Try.prog W 0 (fun _ => true) true 52 v d ps) :
    ∃ a m0 m1 m2 m3 : Int, v = .agg #[.int .u16 a, .int .u8 m0, .int .u8 m1, .int .u8 m2, .int .u8 m3] ∧ (0 ≤ a ∧ a ≤ 65535) ∧ (0 ≤ m0 ∧ m0 ≤ 255) ∧ (0 ≤ m1 ∧ m1 ≤ 255) ∧ (0 ≤ m2 ∧ m2 ≤ 255) ∧ (0 ≤ m3 ∧ m3 ≤ 255) := by
  obtain ⟨cs, rfl, hcs⟩ := okWide_struct Try.underlying52 hval
  obtain ⟨fuel, hf⟩ := h
  obtain ⟨xs, n, _, hx, _, hxl, hfl⟩ := DataW.trod_struct Try.underlying52 hf
  obtain ⟨u0, u1, u2, u3, u4, rfl⟩ := array5 (hcs.trans cellsTurn)
  have e0 : DataW.trod enc Try.prog W 0 (fun _ => true) true n 49 (([u0, u1, u2, u3, u4].drop 0).take (Try.prog.cellsOf 49)) = xs[0]? := hfl 0 _ rfl
  have e1 : DataW.trod enc Try.prog W 0 (fun _ => true) true n 50 (([u0, u1, u2, u3, u4].drop 1).take (Try.prog.cellsOf 50)) = xs[1]? := hfl 1 _ rfl
  have hx2 : xs.length = 2 := hxl
  match xs, hx2 with
  | [y0, y1], _ =>
    rw [cellsU16] at e0
    rw [cellsA4] at e1
    obtain ⟨a, h0, _, g0⟩ := DataW.trod_int Try.underlying49 (show _ = some y0 from e0)
    obtain ⟨z0, z1, z2, z3, k, _, h1, h2, h3, h4⟩ := trod_array4 Try.underlying50 cellsU8 (show _ = some y1 from e1)
    obtain ⟨m0, i1, _, g1⟩ := DataW.trod_int Try.underlying5 h1
    obtain ⟨m1, i2, _, g2⟩ := DataW.trod_int Try.underlying5 h2
    obtain ⟨m2, i3, _, g3⟩ := DataW.trod_int Try.underlying5 h3
    obtain ⟨m3, i4, _, g4⟩ := DataW.trod_int Try.underlying5 h4
    simp at h0 i1 i2 i3 i4
    exact ⟨a, m0, m1, m2, m3, by rw [h0, i1, i2, i3, i4], wf_u16 g0, wf_u8 g1, wf_u8 g2, wf_u8 g3, wf_u8 g4⟩
end Go.Proofs.Ytlbhkendbngmaaa.Wi
