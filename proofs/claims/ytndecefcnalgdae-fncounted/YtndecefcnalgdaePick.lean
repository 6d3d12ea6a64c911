/- CONTRACTS: laws.big, laws.pick. -/
import Derived.Test.YtndecefcnalgdaeBasis
namespace Go.Proofs.Ytndecefcnalgdae
open Go.RowKit


end Go.Proofs.Ytndecefcnalgdae
