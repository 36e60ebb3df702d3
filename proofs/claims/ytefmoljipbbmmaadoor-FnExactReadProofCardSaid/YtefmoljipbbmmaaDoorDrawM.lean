/- The reference model's drawn terms: a row of marks of the call's own, not long. -/
import Derived.Test.YtefmoljipbbmmaaDoorMerged6
namespace Go.Proofs.YtefmoljipbbmmaaDoor
open Go.RowKit Go.Joins

end Go.Proofs.YtefmoljipbbmmaaDoor
