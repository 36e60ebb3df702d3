/- Contract of the reference model's test of a term. -/
import Derived.Test.YtbnickgjnglblaaMarks
namespace Go.Proofs.Ytbnickgjnglblaa
open Go.RowKit

end Go.Proofs.Ytbnickgjnglblaa
