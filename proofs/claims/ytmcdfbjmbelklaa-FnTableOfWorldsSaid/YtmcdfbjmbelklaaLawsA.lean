/- The first laws of chapter 1: worlds. Each answers true, whatever the code. No condition. -/
import Derived.Test.YtmcdfbjmbelklaaTables
import Derived.Test.YtmcdfbjmbelklaaHelpers
import Derived.Test.YtmcdfbjmbelklaaFrame
import Derived.Test.YtmcdfbjmbelklaaDraw
import Derived.WalkKit
import Derived.ProofKit
namespace Go.Proofs.Ytmcdfbjmbelklaa
open Go.RowKit

attribute [local irreducible] heads turned tabOf wl

/-- two drawn numbers of which P holds, nothing that was there is changed -/
def Out2 (P : Int → Int → Prop) (w : World) (e : Ending) (w' : World) : Prop :=
  ∃ p x : Int, P p x ∧ e = .returned (.tuple #[.int .i64 p, .int .i64 x]) ∧ Below w.heap.size w w'
theorem below_of_grown {w w1 w' : World} {b : Nat} (h : Below w.heap.size w w1) (hb : w.heap.size ≤ b) (hg : w1.grownBy w' (some b)) : Below w.heap.size w w' :=
  h.grown hg h.size (fun k hk => by cases hk; exact hb)
theorem code_big {n : Nat} (h : ¬ n ≤ 1048576) : (1048576 : Int) < (n : Int) := by omega

set_option maxHeartbeats 400000 in
theorem alive (w : World) : Calls Try.prog 13 #[] w fun e w' => e = .returned (.bool true) ∧ w = w' := by
  go_enter Try.func13, Try.ntmps13
  go_wp2_with fail
  refine (implWorldOk _ _ _).mono ?_
  rintro e w' ⟨rfl, rfl⟩
  rw [show wOk 1 1 = true from by decide]
  go_wp2_with fail
  refine (implWorldOk _ _ _).mono ?_
  rintro e w' ⟨rfl, rfl⟩
  rw [show wOk 1 2 = false from by decide]
  go_wp2
  go_ret
  exact ⟨rfl, rfl⟩



end Go.Proofs.Ytmcdfbjmbelklaa




