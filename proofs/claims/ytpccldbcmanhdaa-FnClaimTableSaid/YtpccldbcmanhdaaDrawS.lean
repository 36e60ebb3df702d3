/- The reference model's draws of stories. -/
import Derived.Test.YtpccldbcmanhdaaDrawC
namespace Go.Proofs.Ytpccldbcmanhdaa
open Go.RowKit Go.Joins
def QSmall (qs : List QC) : Prop := ∀ q ∈ qs, q.2.2.length ≤ 20 ∧ -1 ≤ q.2.1 ∧ q.2.1 ≤ 4
theorem QSmall.snoc {qs : List QC} {q : QC} (h : QSmall qs) (hq : q.2.2.length ≤ 20 ∧ -1 ≤ q.2.1 ∧ q.2.1 ≤ 4) : QSmall (qs ++ [q]) := by
  intro r hr
  rcases List.mem_append.1 hr with hr | hr
  · exact h r hr
  · simp at hr; subst hr; exact hq
/-- one claim more: how a round ends -/
theorem claim_added {w w4 w5 : World} {b : Nat} {v v' u : Value} {qs : List QC} {k : Int} {ms : List (Int × Int)} {c : Nat} {o : Obj} (hb : b < w.heap.size) (hs : StoryIn w4 w.heap.size w.heap.size v qs) (hq : QSmall qs)
    (hu : w4.ownsRow w.heap.size TM 2 u ms.length (mcells ms)) (hi : I64s ms) (hn : ms.length ≤ 20) (hk1 : -1 ≤ k) (hk4 : k ≤ 4) (hG : w.grownBy w4 (some b)) (hr : Rd w4 b c)
    (hown : w5.ownsRow w.heap.size TC 2 v' (qs.length + 1) (ccells qs ++ ccells [(u, (k, ms))])) (hg : (w4.alloc o).grownBy w5 v.ownBlock) :
    StoryIn w5 w.heap.size w.heap.size v' (qs ++ [(u, (k, ms))]) ∧ QSmall (qs ++ [(u, (k, ms))]) ∧ w.grownBy w5 (some b) ∧ Rd w5 b c := by
  refine ⟨(hs.alloc o).push ⟨hu.alloc o, hi, show I64 k from I64_small (by omega) (by omega)⟩ hown hg, hq.snoc ⟨hn, hk1, hk4⟩, ?_, ?_⟩
  · exact grown_own (only_alloc hG _) hg fun q hq => (hs.1.lt q hq).1
  · exact (hr.alloc _).grown hg (own_row_block hs.1 hb)
/-- what a draw of a number of people and a story hands back -/
def OutS (w : World) (e : Ending) (w' : World) : Prop :=
  ∃ (p : Int) (v : Value) (qs : List QC), -4 ≤ p ∧ p ≤ 8 ∧ e = .returned (.tuple #[.int .i64 p, v]) ∧ StoryIn w' w.heap.size w.heap.size v qs ∧ QSmall qs ∧ qs.length ≤ 7 ∧ Below w.heap.size w w'
end Go.Proofs.Ytpccldbcmanhdaa
