/- Contracts of the reference's claims and stories: terms of claims, stories and their tables. -/
import Derived.Test.YtbcmepcjhobemaaClaimS
import Derived.OwnWalk
namespace Go.Proofs.Ytbcmepcjhobemaa
open Go.RowKit Go.Joins
attribute [local irreducible] holds tabN tabV holdsV sameV followsV alwaysV matterV claimOk mayT mayV ctabV ctabN storyV storyOk storyN storyT ctermV ctermL
theorem RdMarks.cells {w : World} {B b off n cap : Nat} {ms : List (Int × Int)} (h : RdMarks w B (.slice (some ⟨b, off, none⟩) n cap) ms) : ∀ (j : Nat) (u : Value), (mcells ms)[j]? = some u → w.cell? ((⟨b, off, none⟩ : Addr).add j) = some u := by
  intro j u hj
  obtain ⟨ao, cap', hv, hl, _, _, hc⟩ := h
  cases hv
  have hlt : j < ms.length * 2 := by
    rw [← mcells_length]
    exact (List.getElem?_eq_some_iff.1 hj).1
  obtain ⟨b', off', he, _, h1, h2⟩ := hc (j / 2) (by omega)
  cases he
  obtain ⟨g1, g2⟩ := mcells_get ms (j / 2) (by omega)
  have e : (⟨b, off, none⟩ : Addr).add j = ⟨b, off + j, none⟩ := by simp [Addr.add]
  rw [e]
  rcases Nat.mod_two_eq_zero_or_one j with hm | hm
  · have ej : j = j / 2 * 2 := by omega
    rw [ej] at hj ⊢
    rw [g1] at hj
    cases hj
    exact h1
  · have ej : j = j / 2 * 2 + 1 := by omega
    rw [ej] at hj ⊢
    rw [g2] at hj
    cases hj
    exact h2
/-- what a call hands back that returns marks in memory of its own -/
def RowOut (ms : List (Int × Int)) (w : World) (e : Ending) (w' : World) : Prop := ∃ v, e = .returned v ∧ w'.ownsRow w.heap.size TM 2 v ms.length (mcells ms) ∧ Below w.heap.size w w'
theorem ctermV_no {p : Int} {c : Cl} (h : claimOk p c = false) : ctermV p c = [] := by unfold ctermV; rw [h]; rfl
theorem ctermV_yes {p : Int} {c : Cl} (h : claimOk p c = true) : ctermV p c = ctermL c := by unfold ctermV; rw [h]; rfl
theorem ctermL_cells (k : Int) (ms : List (Int × Int)) : (ctermL (k, ms)).length = 1 + ms.length + 1 ∧ mcells (ctermL (k, ms)) = mcells [(0, k)] ++ mcells ms ++ mcells [(5, 0)] := by
  unfold ctermL
  refine ⟨by simp; omega, ?_⟩
  rw [mcells_append]; rfl
/-! ### stories -/
theorem all_take_succ (p : Int) (qs : List QC) (j : Nat) (hj : j < qs.length) : ((qs.take (j + 1)).all fun q => claimOk p q.2) = (((qs.take j).all fun q => claimOk p q.2) && claimOk p (qs.getD j qc0).2) := by
  have e : qs.getD j qc0 = qs[j] := by simp [List.getD, hj]
  rw [List.take_succ_eq_append_getElem hj, List.all_append, e]
  simp
theorem storyOk_no {p : Int} {qs : List QC} {j : Nat} (hj : j < qs.length) (h : claimOk p (qs.getD j qc0).2 = false) : storyOk p (qs.map (·.2)) = false := by
  have e : qs.getD j qc0 = qs[j] := by simp [List.getD, hj]
  rw [e] at h
  cases hs : storyOk p (qs.map (·.2)) with
  | false => rfl
  | true =>
    have := (storyOk_iff.1 hs).1 qs[j].2 (List.mem_map.2 ⟨_, List.getElem_mem hj, rfl⟩)
    rw [h] at this; cases this
theorem storyOk_all {p : Int} {qs : List QC} (h : ((qs.take qs.length).all fun q => claimOk p q.2) = true) : storyOk p (qs.map (·.2)) = (pOk p && decide (qs.length ≤ 6)) := by
  rw [List.take_length] at h
  unfold storyOk
  rw [List.all_map, show (qs.all (claimOk p ∘ fun x => x.2)) = true from h, List.length_map]
  rfl
theorem story_take (p : Int) (qs : List QC) (j : Nat) (hj : j < qs.length) : storyN p ((qs.take (j + 1)).map (·.2)) = storyN p ((qs.take j).map (·.2)) &&& ctabN p (qs.getD j qc0).2 := by
  have e : qs.getD j qc0 = qs[j] := by simp [List.getD, hj]
  rw [List.take_succ_eq_append_getElem hj, List.map_append, e]
  exact storyN_snoc p _ _
end Go.Proofs.Ytbcmepcjhobemaa
