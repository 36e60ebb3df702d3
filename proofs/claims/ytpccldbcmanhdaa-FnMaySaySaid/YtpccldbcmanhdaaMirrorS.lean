/- Contract of the reference model's mirrored term. -/
import Derived.Test.YtpccldbcmanhdaaMirror
import Derived.Test.YtpccldbcmanhdaaMarksS
namespace Go.Proofs.Ytpccldbcmanhdaa
open Go.RowKit Go.Joins
end Go.Proofs.Ytpccldbcmanhdaa
