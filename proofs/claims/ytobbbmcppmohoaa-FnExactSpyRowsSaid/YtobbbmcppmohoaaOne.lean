/- Contracts of the reference's stories with one answer: what is said of stories in memory. -/
import Derived.Test.YtobbbmcppmohoaaClaimT
import Derived.Test.YtobbbmcppmohoaaOneM
import Derived.Maps.AppendAt
namespace Go.Proofs.Ytobbbmcppmohoaa
open Go.RowKit Go.Joins
theorem RdStory.cells {w : World} {B b off n cap : Nat} {qs : List QC} (h : RdStory w B (.slice (some ⟨b, off, none⟩) n cap) qs) : ∀ (j : Nat) (u : Value), (ccells qs)[j]? = some u → w.cell? ((⟨b, off, none⟩ : Addr).add j) = some u := by
  intro j u hj
  obtain ⟨ao, cap', hv, hl, _, _, hc⟩ := h
  cases hv
  have hlt : j < qs.length * 2 := by
    rw [← ccells_length]
    exact (List.getElem?_eq_some_iff.1 hj).1
  obtain ⟨b', off', he, _, h1, h2⟩ := hc (j / 2) (by omega)
  cases he
  obtain ⟨g1, g2⟩ := ccells_get qs (j / 2) (by omega)
  have e : (⟨b, off, none⟩ : Addr).add j = ⟨b, off + j, none⟩ := by simp [Addr.add]
  rw [e]
  rcases Nat.mod_two_eq_zero_or_one j with hm | hm
  · have ej : j = j / 2 * 2 := by omega
    rw [ej] at hj ⊢
    rw [g1] at hj
    cases hj
    exact h1
  · have ej : j = j / 2 * 2 + 1 := by omega
    rw [ej] at hj ⊢
    rw [g2] at hj
    cases hj
    exact h2
theorem RdStory.one {w : World} {B : Nat} {v : Value} {qs : List QC} (h : RdStory w B v qs) : ∀ u ∈ ccells qs, u.oneCell' = true := by
  obtain ⟨_, _, _, _, _, hi, _⟩ := h
  refine ccells_one fun q hq => ?_
  obtain ⟨ao, cap, hv, _⟩ := (hi q hq).1
  rw [hv]; rfl
theorem getD_take {qs : List QC} {k j : Nat} (h : j < k) : (qs.take k).getD j qc0 = qs.getD j qc0 := by
  rw [List.getD_eq_getElem?_getD, List.getD_eq_getElem?_getD, List.getElem?_take, if_pos h]
theorem getD_drop {qs : List QC} {k j : Nat} : (qs.drop k).getD j qc0 = qs.getD (k + j) qc0 := by
  rw [List.getD_eq_getElem?_getD, List.getD_eq_getElem?_getD, List.getElem?_drop]
/-- the first claims of a story -/
theorem RdStory.pre {w : World} {B : Nat} {ao : Option Addr} {n cap k : Nat} {qs : List QC} (h : RdStory w B (.slice ao n cap) qs) (hk : k ≤ n) : RdStory w B (.slice ao k cap) (qs.take k) := by
  obtain ⟨ao', cap', hv, hl, hm, hi, hc⟩ := h
  cases hv
  refine ⟨ao, cap, by rw [List.length_take, Nat.min_eq_left hk], by rw [List.length_take]; omega, hm, fun q hq => hi q (List.mem_of_mem_take hq), fun j hj => ?_⟩
  rw [List.length_take] at hj
  rw [getD_take (by omega)]
  exact hc j (by omega)
/-- the claims of a story behind the first ones -/
theorem RdStory.post {w : World} {B b off n cap k : Nat} {qs : List QC} (h : RdStory w B (.slice (some ⟨b, off, none⟩) n cap) qs) (hk : k ≤ n) : RdStory w B (.slice (some ⟨b, off + k * 2, none⟩) (n - k) (cap - k)) (qs.drop k) := by
  obtain ⟨ao', cap', hv, hl, hm, hi, hc⟩ := h
  cases hv
  refine ⟨_, cap - k, by rw [List.length_drop], by rw [List.length_drop]; omega, by omega, fun q hq => hi q (List.mem_of_mem_drop hq), fun j hj => ?_⟩
  rw [List.length_drop] at hj
  obtain ⟨b', off', he, h1, h2, h3⟩ := hc (k + j) (by omega)
  cases he
  rw [getD_drop]
  refine ⟨b, off + k * 2, rfl, h1, ?_, ?_⟩
  · rw [← h2]; congr 2; omega
  · rw [← h3]; congr 2; omega
theorem rdStory_own {w : World} {base n : Nat} {v : Value} {qs : List QC} (ho : w.ownsRow base TC 2 v n (ccells qs)) (hn : n = qs.length) (hq' : ∀ q ∈ qs, RdMarks w w.heap.size q.1 q.2.2 ∧ I64 q.2.1) : RdStory w w.heap.size v qs := by
  subst hn
  rcases ho.2 with ⟨rfl, hn⟩ | ⟨g, cap, cur, rfl, hb, hg, hnc, hcm, hcs, htake⟩
  · have : qs = [] := List.eq_nil_of_length_eq_zero hn
    subst this
    exact ⟨none, 0, rfl, Nat.le_refl _, by unfold maxLen; omega, hq', fun j hj => by simp at hj⟩
  · refine ⟨_, cap, rfl, hnc, hcm, hq', fun j hj => ⟨g, 0, rfl, (Array.getElem?_eq_some_iff.1 hg).1, ?_, ?_⟩⟩
    · rw [cell_of_row w g (0 + j * 2) cur TC (0, 0) hg]
      have h1 := (ccells_get qs j hj).1
      rw [← htake, List.getElem?_take] at h1
      split at h1
      · simpa using h1
      · cases h1
    · rw [cell_of_row w g (0 + j * 2 + 1) cur TC (0, 0) hg]
      have h1 := (ccells_get qs j hj).2
      rw [← htake, List.getElem?_take] at h1
      split at h1
      · simpa using h1
      · cases h1
theorem RdStory.marks {w : World} {B : Nat} {v : Value} {qs : List QC} (h : RdStory w B v qs) : ∀ q ∈ qs, RdMarks w B q.1 q.2.2 ∧ I64 q.2.1 := by
  obtain ⟨_, _, _, _, _, hi, _⟩ := h
  exact hi
theorem RdStory.len {w : World} {B : Nat} {v : Value} {qs : List QC} (h : RdStory w B v qs) : ∃ ao cap, v = .slice ao qs.length cap ∧ qs.length ≤ cap ∧ cap ≤ maxLen ∧ (0 < qs.length → ∃ b off, ao = some ⟨b, off, none⟩ ∧ b < B) := by
  obtain ⟨ao, cap, hv, hl, hm, _, hc⟩ := h
  exact ⟨ao, cap, hv, hl, hm, fun h0 => by obtain ⟨b, off, h1, h2, _⟩ := hc 0 h0; exact ⟨b, off, h1, h2⟩⟩
theorem clash_yes {p : Int} {s : List Cl} (h : storyOk p s = true) : clashV p s = decide (storyN p s = 0) := by simp [clashV, h]
theorem onlyN_one {p : Int} {s : List Cl} {z : Nat} (h : swl p s = [z]) : onlyN p s = z ∧ onlyOk p s = true := by simp [onlyN, onlyOk, h]
theorem onlyN_not {p : Int} {s : List Cl} (h : (swl p s).length ≠ 1) : onlyN p s = -1 ∧ onlyOk p s = false := by simp [onlyN, onlyOk, h]
theorem woL_take_drop (qs : List QC) (k : Nat) : ccells (woL qs k) = ccells (qs.take k) ++ ccells (qs.drop (k + 1)) := by unfold woL; rw [ccells_append]
def QN (p : Int) (l : List QC) : Nat := storyN p (l.map (·.2))
theorem least_step (N : List QC → Nat) {zs : List QC} {n : Nat} (hn : n < zs.length) : leastR N (zs.take n) (zs.drop n) = if N (woL zs n) = N zs then leastR N ((woL zs n).take n) ((woL zs n).drop n) else leastR N (zs.take (n + 1)) (zs.drop (n + 1)) := by
  have e1 : zs.drop n = zs[n] :: zs.drop (n + 1) := List.drop_eq_getElem_cons hn
  have e2 : zs.take n ++ zs[n] :: zs.drop (n + 1) = zs := by rw [← e1, List.take_append_drop]
  have hl : (zs.take n).length = n := by rw [List.length_take]; omega
  have e3 : (woL zs n).take n = zs.take n := by unfold woL; rw [List.take_append_of_le_length (by omega), List.take_take, Nat.min_self]
  have e4 : (woL zs n).drop n = zs.drop (n + 1) := by unfold woL; rw [List.drop_append_of_le_length (by omega), List.drop_of_length_le (by omega), List.nil_append]
  have e5 : zs.take (n + 1) = zs.take n ++ [zs[n]] := List.take_succ_eq_append_getElem hn
  rw [e1, e3, e4, e5]
  simp only [leastR]
  rw [e2]
  rfl
theorem least_done (N : List QC → Nat) (zs : List QC) : leastR N (zs.take zs.length) (zs.drop zs.length) = zs := by
  rw [List.take_length, List.drop_length]; rfl
theorem least_QN {p : Int} {us : List QC} {s : List Cl} (h : us.map (·.2) = s) : (leastR (QN p) [] us).map (·.2) = leastR (storyN p) [] s := by
  rw [← h]
  exact least_map (fun q : QC => q.2) (storyN p) us []
end Go.Proofs.Ytobbbmcppmohoaa
