/- known holds: what the laws of layer 3 lean on. -/
import Derived.Test.YtibnlifdeknicaaCtxA3
import Derived.Test.YtibnlifdeknicaaCtxB1
namespace Go.Proofs.Ytibnlifdeknicaa

theorem knownOK : KnownOK := fun W => known3 W

end Go.Proofs.Ytibnlifdeknicaa
