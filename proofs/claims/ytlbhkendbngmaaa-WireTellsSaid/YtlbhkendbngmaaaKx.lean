/- Layer 16: WireTells' law, and how its message is opened. -/
import Derived.Test.YtlbhkendbngmaaaKw
import Derived.Test.YtlbhkendbngmaaaK9
namespace Go.Proofs.Ytlbhkendbngmaaa.Wi
open Go.RowKit
theorem tells_lawI (w : World) (m : MsgM) (Q : List (PastM × Value)) (ev : ByteArray) (t s n v st ps : Value) (hm : MI w m Q ev t s n v st ps) :
    Calls Try.prog 3 #[msgV m ev t s n v st ps] w fun e w' => e = .returned (.bool true) ∧ Below w.heap.size w w' := tells_law w m Q ev t s n v st ps hm
end Go.Proofs.Ytlbhkendbngmaaa.Wi
