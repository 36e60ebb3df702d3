/- Texts of a proof, merged: ProveY, ProveZ, ProveR. -/
import Derived.Test.YtefmoljipbbmmaaMerged17
import Derived.Test.YtefmoljipbbmmaaTextS
import Derived.Test.YtefmoljipbbmmaaProveQ
/- Contracts of the reference's texts of proofs. -/
namespace Go.Proofs.Ytefmoljipbbmmaa
open Go.RowKit Go.Joins
/-- the text of a tree, as bytes -/
def bt (t : PT) : List UInt8 := t.text.map UInt8.ofNat
theorem bt_goal : bt (.leaf (-1)) = [42] := rfl
theorem bt_claim (j : Nat) : bt (.leaf (-2 - (j : Int))) = [UInt8.ofNat (48 + j)] := by
  unfold bt
  rw [PT.text, if_neg (by omega), show (-2 - (-2 - (j : Int))).toNat = j by omega]; rfl
theorem bt_node (k : Nat) (a b : PT) : bt (.node k a b) = UInt8.ofNat (97 + k) :: 40 :: (bt a ++ 44 :: (bt b ++ [41])) := by
  unfold bt
  rw [PT.text]
  simp
theorem bt_len (t : PT) : (bt t).length = 5 * t.size + 1 := by unfold bt; rw [List.length_map, PT.text_len]
theorem tree_leaf {sp : List Sp3} {f : Nat} {g : Int} (h : g < 0) : treeOf sp (f + 1) g = .leaf g := by unfold treeOf; rw [if_pos h]
theorem tree_node {sp : List Sp3} {f : Nat} {g : Int} {k : Nat} {x y : Int} (h : 0 ≤ g) (hs : sp.getD g.toNat sp0 = ((k : Int), x, y)) : treeOf sp (f + 1) g = .node k (treeOf sp f x) (treeOf sp f y) := by
  rw [treeOf, if_neg (by omega), hs, Int.toNat_natCast]
theorem abcd_nat (k : Nat) (h : k < 4) : (⟨#[97, 98, 99, 100]⟩ : ByteArray).extract k (k + 1) = ⟨[UInt8.ofNat (97 + k)].toArray⟩ := by
  have h4 : k = 0 ∨ k = 1 ∨ k = 2 ∨ k = 3 := by omega
  rcases h4 with rfl | rfl | rfl | rfl <;> decide
attribute [local irreducible] holds tabN tabV holdsV sameV followsV alwaysV matterV claimOk mayT mayV ctabV ctabN storyV storyOk storyN storyT ctermV ctermL followsF agreeN agreeB closeB chkN checks nextOk ints hfV clL provesF onceB proofV noneK growR clashF leastU unkN scells findF growT foundS foundG bt treeOf
end Go.Proofs.Ytefmoljipbbmmaa
/- Contract of the reference's ProofText. -/
namespace Go.Proofs.Ytefmoljipbbmmaa
open Go.RowKit Go.Joins
/-- the text of a proof, as bytes -/
def tbF (p : Int) (s : List Cl) (ms : List (Int × Int)) (sp : List Sp3) (fi : Int) : List UInt8 := (textF p s ms sp fi).map UInt8.ofNat
theorem tbF_no {p : Int} {s : List Cl} {ms : List (Int × Int)} {sp : List Sp3} {fi : Int} (h : provesF p s ms sp fi = false) : tbF p s ms sp fi = [] := by unfold tbF; rw [textF_no h]; rfl
theorem tbF_yes {p : Int} {s : List Cl} {ms : List (Int × Int)} {sp : List Sp3} {fi : Int} (h : provesF p s ms sp fi = true) : tbF p s ms sp fi = bt (treeOf sp (sp.length + 1) fi) := by unfold tbF; rw [textF_yes h]; rfl
theorem tbF_len {p : Int} {s : List Cl} {ms : List (Int × Int)} {sp : List Sp3} {fi : Int} : (tbF p s ms sp fi).length ≤ 76 := by unfold tbF; rw [List.length_map]; exact textF_len
attribute [local irreducible] holds tabN tabV holdsV sameV followsV alwaysV matterV claimOk mayT mayV ctabV ctabN storyV storyOk storyN storyT ctermV ctermL followsF agreeN agreeB closeB chkN checks nextOk ints hfV clL provesF onceB proofV noneK growR clashF leastU unkN scells findF growT foundS foundG bt treeOf tbF
end Go.Proofs.Ytefmoljipbbmmaa
/- Reading a tree from a text, step by step; without code. -/
namespace Go.Proofs.Ytefmoljipbbmmaa
open Go.RowKit
section
variable {f n c : Nat} {r r1 r2 q : List Nat} {a b : PT}
theorem readT_nil : readT (f + 1) [] n = none := rfl
theorem readT_star : readT (f + 1) (42 :: r) n = some (.leaf (-1), r) := by unfold readT; dsimp only; rw [if_pos rfl]
theorem readT_digit (h1 : 48 ≤ c) (h2 : c ≤ 53) : readT (f + 1) (c :: r) n = some (.leaf (-2 - ((c - 48 : Nat) : Int)), r) := by unfold readT; dsimp only; rw [if_neg (by omega), if_pos ⟨h1, h2⟩]
theorem readT_bad (h1 : c ≠ 42) (h2 : ¬ (48 ≤ c ∧ c ≤ 53)) (h3 : ¬ (97 ≤ c ∧ c ≤ 100 ∧ r.head? = some 40 ∧ n < 15)) : readT (f + 1) (c :: r) n = none := by unfold readT; dsimp only; rw [if_neg h1, if_neg h2, if_neg h3]
theorem readT_no {t : PT} (h1 : 97 ≤ c) (_h2 : c ≤ 100) (h : ∀ a r2 b, readT f r1 (n + 1) = some (a, 44 :: r2) → readT f r2 (n + 1 + a.size) = some (b, 41 :: q) → False) : readT (f + 1) (c :: 40 :: r1) n ≠ some (t, q) := by
  intro hh
  obtain ⟨r1', a, r2, b, _, _, e, _, ha, hb, _⟩ := readT_node (by omega) (by omega) hh
  cases e
  exact h a r2 b ha hb
theorem readT_none (h1 : 97 ≤ c) (h2 : c ≤ 100) (h : ∀ a r2 b q, readT f r1 (n + 1) = some (a, 44 :: r2) → readT f r2 (n + 1 + a.size) = some (b, 41 :: q) → False) : readT (f + 1) (c :: 40 :: r1) n = none := by
  cases hr : readT (f + 1) (c :: 40 :: r1) n with
  | none => rfl
  | some x =>
    obtain ⟨t, q⟩ := x
    exact absurd hr (readT_no h1 h2 (fun a r2 b ha hb => h a r2 b q ha hb))
end
/-- a text's signs as numbers -/
def nats8 (s : List UInt8) : List Nat := s.map UInt8.toNat
theorem nats8_drop {s : List UInt8} {k : Nat} (hk : k < s.length) : ∃ c, s.drop k = c :: s.drop (k + 1) ∧ nats8 (s.drop k) = c.toNat :: nats8 (s.drop (k + 1)) ∧ ∀ h', (⟨s.toArray⟩ : ByteArray)[k]'h' = c := by
  refine ⟨s[k], by rw [List.drop_eq_getElem_cons hk], by unfold nats8; rw [List.drop_eq_getElem_cons hk]; rfl, fun h' => ?_⟩
  show s.toArray[k]'(by simpa using hk) = _
  simp
theorem nats8_end {s : List UInt8} {k : Nat} (hk : s.length ≤ k) : nats8 (s.drop k) = [] := by unfold nats8; rw [List.drop_eq_nil_of_le hk]; rfl
theorem nats8_head {s : List UInt8} {k : Nat} (_hk : k < s.length) {c : UInt8} (h : s.drop k = c :: s.drop (k + 1)) (z : Nat) : (nats8 (s.drop k)).head? = some z ↔ c.toNat = z := by
  unfold nats8; rw [h]; simp
end Go.Proofs.Ytefmoljipbbmmaa
