/- Contract of the reference model's test of a term. -/
import Derived.Test.YtbnickgjnglblaaDoorMarks
namespace Go.Proofs.YtbnickgjnglblaaDoor
open Go.RowKit

end Go.Proofs.YtbnickgjnglblaaDoor
