/- Own work of the verifier of watercress: FzF1. -/
import Derived.Test.YtpefamheopplnaaMj21
import Derived.Test.YtpefamheopplnaaMj16
set_option linter.unusedVariables false
set_option linter.unusedSimpArgs false
namespace Go.Fz
open Go.Proofs
set_option maxRecDepth 100000
end Go.Fz
