/- The reference model's drawn terms: a row of marks of the call's own, not long. -/
import Derived.Test.YtngkgdoefpgnoaaMerged6
namespace Go.Proofs.Ytngkgdoefpgnoaa
open Go.RowKit Go.Joins

end Go.Proofs.Ytngkgdoefpgnoaa
