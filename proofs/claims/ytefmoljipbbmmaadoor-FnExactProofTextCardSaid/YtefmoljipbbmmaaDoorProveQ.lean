/- Proofs by cases: their texts and the reading of texts; the mathematics of the laws. -/
import Derived.Test.YtefmoljipbbmmaaDoorMerged12
namespace Go.Proofs.YtefmoljipbbmmaaDoor
open Go.RowKit
/-- the text of a proof; none if it is not one -/
def textF (p : Int) (s : List Cl) (ms : List (Int × Int)) (sp : List Sp3) (fi : Int) : List Nat := if provesF p s ms sp fi = true then (treeOf sp (sp.length + 1) fi).text else []
/-- what is read of a text -/
def readF (p : Int) (s : List Cl) (ms : List (Int × Int)) (bs : List Nat) : Option PT :=
  if bs.length ≤ 200 then
    match readT 16 bs 0 with
    | some (t, []) => if provesF p s ms (t.flat 0) (t.tgt 0) = true then some t else none
    | _ => none
  else none
theorem readF_iff {p : Int} {s : List Cl} {ms : List (Int × Int)} {bs : List Nat} {t : PT} : readF p s ms bs = some t ↔ bs.length ≤ 200 ∧ readT 16 bs 0 = some (t, []) ∧ provesF p s ms (t.flat 0) (t.tgt 0) = true := by
  unfold readF
  by_cases hl : bs.length ≤ 200
  · rw [if_pos hl]
    cases hr : readT 16 bs 0 with
    | none => simp
    | some q =>
      obtain ⟨u, r⟩ := q
      cases r with
      | cons c r => simp
      | nil =>
        dsimp only
        by_cases hp : provesF p s ms (u.flat 0) (u.tgt 0) = true
        · rw [if_pos hp]
          constructor
          · intro h; cases h; exact ⟨hl, rfl, hp⟩
          · rintro ⟨_, h, _⟩; cases h; rfl
        · rw [if_neg hp]
          constructor
          · intro h; cases h
          · rintro ⟨_, h, h2⟩; cases h; exact absurd h2 hp
  · rw [if_neg hl]
    constructor
    · intro h; cases h
    · rintro ⟨h, _⟩; exact absurd h hl
theorem pp_of {p : Int} {ms : List (Int × Int)} (h : termOk p ms = true) : p.toNat ≤ 4 := by have := p_of h; omega
theorem proves_tree {p : Int} {s : List Cl} {ms : List (Int × Int)} {sp : List Sp3} {fi : Int} (h : provesF p s ms sp fi = true) :
    (treeOf sp (sp.length + 1) fi).ok p.toNat (hfV p ms) (clL p s) (noneK p.toNat) = true ∧ (treeOf sp (sp.length + 1) fi).size = sp.length ∧ sp.length ≤ 15 := by
  obtain ⟨_, _, h3⟩ := provesF_iff.1 h
  exact ⟨(proof_tree h3).1, (proof_tree h3).2, (proofV_iff.1 h3).1⟩
theorem proves_fine {p : Int} {s : List Cl} {ms : List (Int × Int)} {t : PT} (hs : storyOk p s = true) (ht : termOk p ms = true) (h : t.ok p.toNat (hfV p ms) (clL p s) (noneK p.toNat) = true) : t.fine = true :=
  PT.ok_fine (pp_of ht) (by rw [clL_len]; exact (storyOk_iff.1 hs).2.2) t _ h
/-- the tree of the splits of a proof that are in order -/
theorem tree_back {t : PT} (h : t.tight = true) : treeOf (t.flat 0) ((t.flat 0).length + 1) (t.tgt 0) = t := by
  have := treeOf_flat t [] [] (t.size + 1) h (by omega)
  rw [PT.flat_len]
  simpa using this
/-- the splits in order of a proof are one -/
theorem proves_flat {p : Int} {s : List Cl} {ms : List (Int × Int)} {sp : List Sp3} {fi : Int} (h : provesF p s ms sp fi = true) :
    provesF p s ms ((treeOf sp (sp.length + 1) fi).flat 0) ((treeOf sp (sp.length + 1) fi).tgt 0) = true := by
  obtain ⟨h1, h2, _⟩ := provesF_iff.1 h
  obtain ⟨h4, h5, h6⟩ := proves_tree h
  exact provesF_iff.2 ⟨h1, h2, flat_proof h4 (by omega)⟩
theorem textF_yes {p : Int} {s : List Cl} {ms : List (Int × Int)} {sp : List Sp3} {fi : Int} (h : provesF p s ms sp fi = true) : textF p s ms sp fi = (treeOf sp (sp.length + 1) fi).text := by unfold textF; rw [if_pos h]
theorem textF_no {p : Int} {s : List Cl} {ms : List (Int × Int)} {sp : List Sp3} {fi : Int} (h : provesF p s ms sp fi = false) : textF p s ms sp fi = [] := by unfold textF; rw [if_neg (by rw [h]; decide)]
theorem textF_nil {p : Int} {s : List Cl} {ms : List (Int × Int)} {sp : List Sp3} {fi : Int} : textF p s ms sp fi = [] ↔ provesF p s ms sp fi = false := by
  cases h : provesF p s ms sp fi with
  | false => rw [textF_no h]; simp
  | true => rw [textF_yes h]; simp [PT.text_ne]
theorem textF_len {p : Int} {s : List Cl} {ms : List (Int × Int)} {sp : List Sp3} {fi : Int} : (textF p s ms sp fi).length ≤ 76 := by
  cases h : provesF p s ms sp fi with
  | false => rw [textF_no h]; simp
  | true =>
    obtain ⟨_, h5, h6⟩ := proves_tree h
    rw [textF_yes h, PT.text_len]; omega
/-- the text of a proof is read as its splits in order -/
theorem read_textF {p : Int} {s : List Cl} {ms : List (Int × Int)} {sp : List Sp3} {fi : Int} (h : provesF p s ms sp fi = true) : readF p s ms (textF p s ms sp fi) = some (treeOf sp (sp.length + 1) fi) := by
  obtain ⟨h1, h2, _⟩ := provesF_iff.1 h
  obtain ⟨h4, h5, h6⟩ := proves_tree h
  refine readF_iff.2 ⟨by have := textF_len (p := p) (s := s) (ms := ms) (sp := sp) (fi := fi); omega, ?_, proves_flat h⟩
  rw [textF_yes h]
  have := read_text (treeOf sp (sp.length + 1) fi) 16 0 [] (proves_fine h1 h2 h4) (by omega) (by omega)
  simpa using this
/-- and its text is the same again -/
theorem text_flat {p : Int} {s : List Cl} {ms : List (Int × Int)} {sp : List Sp3} {fi : Int} (h : provesF p s ms sp fi = true) :
    textF p s ms ((treeOf sp (sp.length + 1) fi).flat 0) ((treeOf sp (sp.length + 1) fi).tgt 0) = textF p s ms sp fi ∧ ((treeOf sp (sp.length + 1) fi).flat 0).length = sp.length := by
  obtain ⟨h4, h5, h6⟩ := proves_tree h
  rw [textF_yes h, textF_yes (proves_flat h), tree_back (PT.ok_tight _ _ h4), PT.flat_len]
  exact ⟨rfl, h5⟩
/-- read proofs are canonical -/
theorem readF_text {p : Int} {s : List Cl} {ms : List (Int × Int)} {bs : List Nat} {t : PT} (h : readF p s ms bs = some t) : textF p s ms (t.flat 0) (t.tgt 0) = bs ∧ provesF p s ms (t.flat 0) (t.tgt 0) = true := by
  obtain ⟨h1, h2, h3⟩ := readF_iff.1 h
  have ht : t.tight = true := by
    have hf := (text_read _ _ _ _ _ h2).2.1
    exact fine_tight t hf
  refine ⟨?_, h3⟩
  rw [textF_yes h3, tree_back ht]
  have := (text_read _ _ _ _ _ h2).1
  simpa using this
where
  fine_tight : ∀ t : PT, t.fine = true → t.tight = true
    | .leaf g, h => by rw [PT.fine, decide_eq_true_eq] at h; rw [PT.tight, decide_eq_true_eq]; exact h.2
    | .node k a b, h => by
      rw [PT.fine, Bool.and_eq_true, Bool.and_eq_true] at h
      rw [PT.tight, fine_tight a h.2.1, fine_tight b h.2.2]; rfl
/-- with a further star behind it a text is refused -/
theorem readF_star {p : Int} {s : List Cl} {ms : List (Int × Int)} {bs : List Nat} {t : PT} (h : readF p s ms bs = some t) (e : Nat) : readF p s ms (bs ++ [e]) = none := by
  obtain ⟨h1, h2, h3⟩ := readF_iff.1 h
  cases hr : readF p s ms (bs ++ [e]) with
  | none => rfl
  | some u =>
    have := (readF_iff.1 hr).2.1
    rw [read_behind _ _ _ _ _ [e] h2] at this
    cases this
end Go.Proofs.YtefmoljipbbmmaaDoor
