/- Contract of the reference's text of a term. -/
import Derived.Test.YtefmoljipbbmmaaTextT
import Derived.Test.YtefmoljipbbmmaaMarksS
import Derived.Test.YtefmoljipbbmmaaMerged4
import Derived.Laws.IdiomStrings
namespace Go.Proofs.Ytefmoljipbbmmaa
open Go.RowKit


theorem last_bound {p : Int} : ∀ {t : Tm}, t.ok p → 0 ≤ t.last ∧ t.last ≤ 5
  | .leaf k x, h => by simp only [Tm.ok] at h; simp only [Tm.last]; omega
  | .un t, _ => by simp [Tm.last]
  | .bin k a b, h => by simp only [Tm.ok] at h; simp only [Tm.last]; omega
theorem post_last : ∀ t : Tm, (t.post.getD (t.post.length - 1) (0, 0)).1 = t.last
  | .leaf k x => rfl
  | .un t => by simp [Tm.post, Tm.last, List.getD_eq_getElem?_getD]
  | .bin k a b => by simp [Tm.post, Tm.last, List.getD_eq_getElem?_getD]
end Go.Proofs.Ytefmoljipbbmmaa
