/- Own work of the verifier of watercress: FzB12. -/
import Derived.Test.YtpefamheopplnaaMm12
set_option linter.unusedVariables false
set_option linter.unusedSimpArgs false
namespace Go.Fz
open Go.Proofs
set_option maxRecDepth 100000
end Go.Fz
