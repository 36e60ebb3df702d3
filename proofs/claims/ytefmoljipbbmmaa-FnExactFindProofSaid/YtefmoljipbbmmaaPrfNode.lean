/- Contract of the reference's l11Read: a split read from a place of a text on, and the induction. -/
import Derived.Test.YtefmoljipbbmmaaPrfRead
namespace Go.Proofs.Ytefmoljipbbmmaa
open Go.RowKit Go.Joins
theorem node_flat {sp : List Sp3} {m K : Nat} {a b : PT} {x : Int} (hm : sp.length = m) (hx : x = (K : Int)) (z1 z2 : Int) (h1 : z1 = a.tgt (m + 1)) (h2 : z2 = b.tgt (m + 1 + a.size)) :
    (sp ++ [(x, -1, -1)] ++ a.flat (m + 1) ++ b.flat (m + 1 + a.size)).set m (x, z1, z2) = sp ++ (PT.node K a b).flat m := by
  have e : sp ++ [(x, (-1 : Int), (-1 : Int))] ++ a.flat (m + 1) ++ b.flat (m + 1 + a.size) = sp ++ (x, (-1 : Int), (-1 : Int)) :: (a.flat (m + 1) ++ b.flat (m + 1 + a.size)) := by simp
  rw [e, set_at hm, h1, h2, hx]
  rfl
theorem nats8_sep {s : List UInt8} {j : Nat} {z : Nat} {r : List Nat} (h : nats8 (s.drop j) = z :: r) : j < s.length := by
  by_cases hj : j < s.length
  · exact hj
  · rw [nats8_end (by omega)] at h; cases h
theorem nats8_sep2 {s : List UInt8} {j : Nat} {z : Nat} {r : List Nat} {d : UInt8} (h : nats8 (s.drop j) = z :: r) (hj : nats8 (s.drop j) = d.toNat :: nats8 (s.drop (j + 1))) : d.toNat = z ∧ nats8 (s.drop (j + 1)) = r := by
  rw [hj] at h; cases h; exact ⟨rfl, rfl⟩
attribute [local irreducible] holds tabN tabV holdsV sameV followsV alwaysV matterV claimOk mayT mayV ctabV ctabN storyV storyOk storyN storyT ctermV ctermL followsF agreeN agreeB closeB chkN checks nextOk ints hfV clL provesF onceB proofV noneK growR clashF leastU unkN scells findF growT foundS foundG bt treeOf tbF readT nats8
end Go.Proofs.Ytefmoljipbbmmaa
