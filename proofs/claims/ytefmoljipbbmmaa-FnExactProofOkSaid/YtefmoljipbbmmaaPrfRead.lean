/- Contract of the reference's l11Read: a tree read from a place of a text on. -/
import Derived.Test.YtefmoljipbbmmaaMerged20
namespace Go.Proofs.Ytefmoljipbbmmaa
open Go.RowKit Go.Joins
/-- what a call hands back that reads a tree from a place on, behind other splits -/
def ReadOut11 (s : List UInt8) (k : Nat) (sp : List Sp3) (f base : Nat) (w : World) (e : Ending) (w' : World) : Prop :=
  Below w.heap.size w w' ∧ ∃ ao len cap fi nx, e = .returned (.tuple #[.slice ao len cap, .int .i64 fi, .int .i64 nx]) ∧
    ((∃ t j, nx = ((j : Nat) : Int) ∧ k < j ∧ j ≤ s.length ∧ readT f (nats8 (s.drop k)) sp.length = some (t, nats8 (s.drop j)) ∧ len = (sp ++ t.flat sp.length).length ∧ fi = t.tgt sp.length ∧ w'.ownsRow base TSp 3 (.slice ao len cap) len (scells (sp ++ t.flat sp.length))) ∨
     (nx = -1 ∧ fi = -1 ∧ readT f (nats8 (s.drop k)) sp.length = none))
def ReadC11 (F : Nat) (s : List UInt8) (f : Nat) : Prop := ∀ (k : Nat) (sp : List Sp3), k ≤ s.length → sp.length ≤ 15 → 16 ≤ f + sp.length → ∀ (base : Nat) (v : Value) (w : World), w.ownsRow base TSp 3 v sp.length (scells sp) → base ≤ w.heap.size →
  Calls Try.prog F #[sv s, .int .i64 (k : Int), v] w (ReadOut11 s k sp f base w)
theorem low_cases (x : Nat) (h : ¬ (48 ≤ x ∧ x ≤ 53)) : x < 48 ∨ (53 < x ∧ x < 97) ∨ (97 ≤ x ∧ 100 < x) ∨ (97 ≤ x ∧ x ≤ 100) := by omega
theorem leaf_flat (g : Int) (n : Nat) (sp : List Sp3) : sp ++ (PT.leaf g).flat n = sp := by simp [PT.flat]
attribute [local irreducible] holds tabN tabV holdsV sameV followsV alwaysV matterV claimOk mayT mayV ctabV ctabN storyV storyOk storyN storyT ctermV ctermL followsF agreeN agreeB closeB chkN checks nextOk ints hfV clL provesF onceB proofV noneK growR clashF leastU unkN scells findF growT foundS foundG bt treeOf tbF readT nats8
end Go.Proofs.Ytefmoljipbbmmaa
