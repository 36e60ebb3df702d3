/- Contract of the reference model's mirrored term. -/
import Derived.Test.YtiakelhpmiffdaaMirror
import Derived.Test.YtiakelhpmiffdaaMarksS
namespace Go.Proofs.Ytiakelhpmiffdaa
open Go.RowKit Go.Joins
end Go.Proofs.Ytiakelhpmiffdaa
