/- The door: the three tables of Go's library, a world in which they are laid. -/
import Derived.Test.YtmcdfbjmbelklaaDoorFrameM
import Derived.LaidLaws
import Derived.SevenTiedAt
import Derived.Test.YtmcdfbjmbelklaaDoorTie
import Derived.Test.YtmcdfbjmbelklaaDoorCards
namespace Go.Proofs.YtmcdfbjmbelklaaDoor
open Go.RowKit

def rowOf : DataW Unit → Array Value
  | .agg xs => (xs.map fun | .lit (.int k n) => Value.int k n | _ => .bool false).toArray
  | _ => #[]
def rowInto (d : DataW Unit) : Obj → Obj
  | .cells _ t frozen => .cells (rowOf d) t frozen
  | o => o
abbrev tabs : List (String × DataW Unit) := [("math/bits.deBruijn32tab", Rows.laid_math_bits_deBruijn32tab), ("math/bits.deBruijn64tab", Rows.laid_math_bits_deBruijn64tab), ("internal/strconv.uint64pow10", Rows.laid_internal_strconv_uint64pow10)]
noncomputable def laidWorld (os : Os) : World :=
  { World.holding Tryd.prog os ⟨#[], #[], []⟩ with heap := (((World.holding Tryd.prog os ⟨#[], #[], []⟩).heap.modify 1 (rowInto Rows.laid_math_bits_deBruijn32tab)).modify 2 (rowInto Rows.laid_math_bits_deBruijn64tab)).modify 0 (rowInto Rows.laid_internal_strconv_uint64pow10) }
set_option maxRecDepth 100000 in
theorem laidWorld_met (os : Os) (args : Array Value) : laidMet Tryd.prog tabs ((laidWorld os).forCall (fun _ _ => 0) ⟨#[], args, []⟩).memory :=
  laidMet_of_run' 8 (by kernel_rfl) (by kernel_rfl)
end Go.Proofs.YtmcdfbjmbelklaaDoor
