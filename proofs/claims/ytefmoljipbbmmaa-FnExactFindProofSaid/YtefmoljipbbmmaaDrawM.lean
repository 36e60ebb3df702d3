/- The reference model's drawn terms: a row of marks of the call's own, not long. -/
import Derived.Test.YtefmoljipbbmmaaMerged6
namespace Go.Proofs.Ytefmoljipbbmmaa
open Go.RowKit Go.Joins

end Go.Proofs.Ytefmoljipbbmmaa
