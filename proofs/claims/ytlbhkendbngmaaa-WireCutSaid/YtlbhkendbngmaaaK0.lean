/- Layer 16: WireCut's law with whole numbers. -/
import Derived.Test.YtlbhkendbngmaaaK8
import Derived.Test.YtlbhkendbngmaaaK9
namespace Go.Proofs.Ytlbhkendbngmaaa.Wi
open Go.RowKit
set_option maxRecDepth 100000

theorem cut_lawI (w : World) (m : MsgM) (Q : List (PastM × Value)) (ev : ByteArray) (t s n v st ps : Value) (hm : MI w m Q ev t s n v st ps) (a b : Int) (ha : 0 ≤ a ∧ a ≤ 65535) (hb : 0 ≤ b ∧ b ≤ 255) :
    Calls Try.prog 8 #[msgV m ev t s n v st ps, .int .u16 a, .int .u8 b] w fun e w' => e = .returned (.bool true) ∧ Below w.heap.size w w' := by
  obtain ⟨k, rfl⟩ := Int.eq_ofNat_of_zero_le ha.1
  obtain ⟨u, rfl⟩ := byte_of b hb.1 hb.2
  exact cut_law w m Q ev t s n v st ps hm k (by omega) u
end Go.Proofs.Ytlbhkendbngmaaa.Wi
