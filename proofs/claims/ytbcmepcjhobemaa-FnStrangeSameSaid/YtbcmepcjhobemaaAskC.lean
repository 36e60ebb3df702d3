/- Contracts of the reference's chains of questions, and of who is asked alike. -/
import Derived.Test.YtbcmepcjhobemaaAsk
namespace Go.Proofs.Ytbcmepcjhobemaa
open Go.RowKit Go.Joins
theorem chain_no_term {p : Int} {l : List Int} {ms : List (Int × Int)} (h : termOk p ms = false) : chainOk p l ms = false ∧ chainV p l ms = [] := by
  have e : chainOk p l ms = false := by unfold chainOk; rw [h]; rfl
  exact ⟨e, by unfold chainV; rw [e]; rfl⟩
theorem chain_long {p : Int} {l : List Int} {ms : List (Int × Int)} (h : 15 < l.length) : chainOk p l ms = false ∧ chainV p l ms = [] := by
  have e : chainOk p l ms = false := by
    unfold chainOk
    cases ht : termOk p ms with
    | false => rfl
    | true =>
      cases hc : termOk p (chainL l ms) with
      | false => rfl
      | true => have := ((chain_ok ht).1 hc).2; omega
  exact ⟨e, by unfold chainV; rw [e]; rfl⟩
theorem chain_yes {p : Int} {l : List Int} {ms : List (Int × Int)} (h : termOk p ms = true) : chainOk p l ms = termOk p (chainL l ms) ∧ chainV p l ms = if termOk p (chainL l ms) then chainL l ms else [] := by
  have e : chainOk p l ms = termOk p (chainL l ms) := by unfold chainOk; rw [h]; rfl
  exact ⟨e, by unfold chainV; rw [e]⟩
theorem chain_drop {l : List Int} {ms : List (Int × Int)} {i : Nat} (hi : i < l.length) : chainL (l.drop i) ms = ctermL (l.getD i 0, chainL (l.drop (i + 1)) ms) := by
  rw [List.drop_eq_getElem_cons hi, show l.getD i 0 = l[i] by simp [List.getD, hi]]
  rfl
theorem chain_end (l : List Int) (ms : List (Int × Int)) : chainL (l.drop l.length) ms = ms := by rw [List.drop_length]; rfl
theorem chain_I64 {ms : List (Int × Int)} (hi : I64s ms) : ∀ l : List Int, (∀ z ∈ l, I64 z) → I64s (chainL l ms) := by
  intro l
  induction l with
  | nil => intro _; exact hi
  | cons z r ih => intro h; exact I64s_cterm7 (h z (by simp)) (ih fun y hy => h y (by simp [hy]))
theorem chain_len_drop {l : List Int} {ms : List (Int × Int)} (i : Nat) : (chainL (l.drop i) ms).length = ms.length + 2 * (l.length - i) := by rw [chain_len, List.length_drop]
attribute [local irreducible] holds tabN tabV holdsV sameV followsV alwaysV matterV claimOk mayT mayV ctabV ctabN storyV storyOk storyN storyT ctermV ctermL ansN inOk chainL chainOk chainV alikeV liesN mcells
end Go.Proofs.Ytbcmepcjhobemaa
