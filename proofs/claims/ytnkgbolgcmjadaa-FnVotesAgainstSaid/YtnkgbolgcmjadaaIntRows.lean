/- Rows of rows of numbers in memory. -/
import Derived.Test.YtnkgbolgcmjadaaOwn
import Derived.Test.YtnkgbolgcmjadaaHelpers
namespace Go.Proofs.Ytnkgbolgcmjadaa
open Go.RowKit Go.Joins
abbrev RW := Value × List Int
def rw0 : RW := (.slice none 0 0, [])
/-- a row of rows that is read -/
def RdRows (w : World) (B : Nat) (v : Value) (rs : List RW) : Prop :=
  ∃ ao cap, v = .slice ao rs.length cap ∧ rs.length ≤ cap ∧ cap ≤ maxLen ∧ (∀ r ∈ rs, RdInts w B r.1 r.2) ∧
    ∀ j, j < rs.length → ∃ b off, ao = some ⟨b, off, none⟩ ∧ b < B ∧ w.cell? ⟨b, off + j, none⟩ = some (rs.getD j rw0).1
theorem RdRows.below {w w' : World} {B : Nat} {v : Value} {rs : List RW} (h : RdRows w B v rs) (hb : ∀ k, k < B → w'.heap[k]? = w.heap[k]?) : RdRows w' B v rs := by
  obtain ⟨ao, cap, hv, hl, hm, hi, hc⟩ := h
  refine ⟨ao, cap, hv, hl, hm, fun r hr => (hi r hr).below hb, fun j hj => ?_⟩
  obtain ⟨b, off, ha, hB, hc1⟩ := hc j hj
  exact ⟨b, off, ha, hB, by rw [← hc1]; exact World.cell?_of_block (w := w) (hb b hB)⟩
theorem RdRows.mono {w : World} {B B' : Nat} {v : Value} {rs : List RW} (h : RdRows w B v rs) (hB : B ≤ B') : RdRows w B' v rs := by
  obtain ⟨ao, cap, hv, hl, hm, hi, hc⟩ := h
  refine ⟨ao, cap, hv, hl, hm, fun r hr => (hi r hr).mono hB, fun j hj => ?_⟩
  obtain ⟨b, off, ha, hb, hc1⟩ := hc j hj
  exact ⟨b, off, ha, by omega, hc1⟩
theorem RdRows.kept {w w' : World} {v : Value} {rs : List RW} (h : RdRows w w.heap.size v rs) (hb : Below w.heap.size w w') : RdRows w' w'.heap.size v rs := (h.below hb.block).mono hb.size
theorem rw_at {rs : List RW} {j : Nat} (hj : j < rs.length) : rs.getD j rw0 = rs[j] := by simp [List.getD, hj]
theorem RdRows.get {w : World} {B : Nat} {v : Value} {rs : List RW} (h : RdRows w B v rs) {j : Nat} (hj : j < rs.length) : RdInts w B (rs.getD j rw0).1 (rs.getD j rw0).2 := by
  obtain ⟨_, _, _, _, _, hi, _⟩ := h
  rw [rw_at hj]; exact hi _ (List.getElem_mem hj)
/-- a row of rows of the call's own -/
def RowsIn (w : World) (base : Nat) (v : Value) (rs : List RW) : Prop :=
  w.ownsRow base 26 1 v rs.length (rs.map (·.1)) ∧ ∀ r ∈ rs, w.ownsRow base 3 1 r.1 r.2.length (ints r.2)
theorem RowsIn.row {w w' : World} {base b : Nat} {v : Value} {rs : List RW} (h : RowsIn w base v rs) (hg : w.grownBy w' (some b)) (hb : b < base) : RowsIn w' base v rs :=
  ⟨own_row9 h.1 hg hb, fun r hr => own_row9 (h.2 r hr) hg hb⟩
theorem RowsIn.alloc {w : World} {base : Nat} {v : Value} {rs : List RW} (h : RowsIn w base v rs) (o : Obj) : RowsIn (w.alloc o) base v rs :=
  ⟨h.1.alloc o, fun r hr => (h.2 r hr).alloc o⟩
theorem RowsIn.mono {w : World} {base base' : Nat} {v : Value} {rs : List RW} (h : RowsIn w base' v rs) (hb : base ≤ base') : RowsIn w base v rs :=
  ⟨own_mono9 h.1 hb, fun r hr => own_mono9 (h.2 r hr) hb⟩
theorem RowsIn.below {w w' : World} {base : Nat} {v : Value} {rs : List RW} (h : RowsIn w base v rs) (hb : Below w.heap.size w w') : RowsIn w' base v rs :=
  ⟨own_below9 h.1 hb, fun r hr => own_below9 (h.2 r hr) hb⟩
theorem RowsIn.empty (w : World) (base : Nat) (hb : base ≤ w.heap.size) : RowsIn (w.alloc (.cells #[] 26)) base (.slice (some ⟨w.heap.size, 0, none⟩) 0 0) [] :=
  ⟨World.ownsRow_made _ _ 0 hb (Nat.zero_le _) rfl, fun r hr => by simp at hr⟩
theorem RowsIn.rd {w : World} {base : Nat} {v : Value} {rs : List RW} (h : RowsIn w base v rs) : RdRows w w.heap.size v rs := by
  obtain ⟨ho, hi⟩ := h
  have hir : ∀ r ∈ rs, RdInts w w.heap.size r.1 r.2 := fun r hr => RdInts.of_own (hi r hr)
  rcases ho.2 with ⟨rfl, hn⟩ | ⟨g, cap, cur, rfl, hb, hg, hnc, hcm, hcs, htake⟩
  · have : rs = [] := List.eq_nil_of_length_eq_zero hn
    subst this
    exact ⟨none, 0, rfl, Nat.le_refl _, by unfold maxLen; omega, hir, fun j hj => by simp at hj⟩
  · refine ⟨_, cap, rfl, hnc, hcm, hir, fun j hj => ⟨g, 0, rfl, (Array.getElem?_eq_some_iff.1 hg).1, ?_⟩⟩
    have h1 := ho.cellAt j (by simpa using hj)
    rw [Nat.zero_add, h1, rw_at hj]
    simp [hj]
/-- one row more -/
theorem RowsIn.push {w w' : World} {base : Nat} {v v' : Value} {rs : List RW} {q : RW} (h : RowsIn w base v rs) (hne : (26 : TypeId) ≠ 3)
    (hq : w.ownsRow base 3 1 q.1 q.2.length (ints q.2)) (hown : w'.ownsRow base 26 1 v' (rs.length + 1) (rs.map (·.1) ++ [q.1])) (hg : w.grownBy w' v.ownBlock) : RowsIn w' base v' (rs ++ [q]) := by
  refine ⟨by simpa using hown, fun r hr => ?_⟩
  have hk : ∀ r : RW, w.ownsRow base 3 1 r.1 r.2.length (ints r.2) → w'.ownsRow base 3 1 r.1 r.2.length (ints r.2) := fun r ho => by
    refine ho.kept hg ?_
    rcases own_ne9 ho h.1 (Ne.symm hne) with h1 | h1
    · exact .inl h1
    · exact .inr h1
  rcases List.mem_append.1 hr with hr | hr
  · exact hk r (h.2 r hr)
  · simp at hr; subst hr; exact hk _ hq
/-- no two rows lie in one block -/
def Far9 (a b : Value) : Prop := a.ownBlock = none ∨ a.ownBlock ≠ b.ownBlock
theorem Far9.symm {a b : Value} (h : Far9 a b) : Far9 b a := by
  unfold Far9 at *
  rcases h with h | h
  · cases hb : b.ownBlock with
    | none => exact .inl rfl
    | some g => right; rw [h]; simp
  · exact .inr (Ne.symm h)
def Apart9 (rs : List RW) : Prop := rs.Pairwise fun a b => Far9 a.1 b.1
theorem Apart9.nil : Apart9 [] := List.Pairwise.nil
theorem Apart9.push {rs : List RW} {q : RW} (h : Apart9 rs) (hq : ∀ r ∈ rs, Far9 r.1 q.1) : Apart9 (rs ++ [q]) := by
  unfold Apart9
  rw [List.pairwise_append]
  exact ⟨h, List.pairwise_singleton _ _, fun a ha b hb => by rw [List.mem_singleton] at hb; subst hb; exact hq a ha⟩
theorem Apart9.ne {rs : List RW} (h : Apart9 rs) {i j : Nat} (hi : i < rs.length) (hj : j < rs.length) (hne : i ≠ j) : Far9 (rs[i]).1 (rs[j]).1 := by
  rcases Nat.lt_or_gt_of_ne hne with h1 | h1
  · exact List.pairwise_iff_getElem.1 h i j hi hj h1
  · exact (List.pairwise_iff_getElem.1 h j i hj hi h1).symm
theorem Apart9.set {rs : List RW} (h : Apart9 rs) (k : Nat) (q : RW) (hq : ∀ i (hi : i < rs.length), i ≠ k → Far9 (rs[i]).1 q.1) : Apart9 (rs.set k q) := by
  unfold Apart9
  rw [List.pairwise_iff_getElem]
  intro i j hi hj hij
  rw [List.length_set] at hi hj
  rw [List.getElem_set, List.getElem_set]
  by_cases h1 : k = i
  · rw [if_pos h1, if_neg (by omega)]
    exact (hq j hj (by omega)).symm
  · rw [if_neg h1]
    by_cases h2 : k = j
    · rw [if_pos h2]; exact hq i hi (by omega)
    · rw [if_neg h2]; exact h.ne hi hj (by omega)
theorem mem_set9 {rs : List RW} {k : Nat} {q r : RW} (h : r ∈ rs.set k q) : r = q ∨ ∃ i, ∃ hi : i < rs.length, i ≠ k ∧ r = rs[i] := by
  obtain ⟨i, hi, e⟩ := List.getElem_of_mem h
  rw [List.length_set] at hi
  rw [List.getElem_set] at e
  by_cases h1 : k = i
  · rw [if_pos h1] at e; exact .inl e.symm
  · rw [if_neg h1] at e; exact .inr ⟨i, hi, fun e => h1 e.symm, e.symm⟩
theorem ints_set (zs : List Int) (j : Nat) (z : Int) : (ints zs).set j (.int .i64 z) = ints (zs.set j z) := by unfold ints; rw [List.map_set]
/-- one number of one row is stored -/
theorem RowsIn.setEnt {w : World} {base : Nat} {v : Value} {rs : List RW} (h : RowsIn w base v rs) (hap : Apart9 rs) (hne : (26 : TypeId) ≠ 3) {k j g cap : Nat} (hk : k < rs.length)
    (hv : (rs[k]).1 = .slice (some ⟨g, 0, none⟩) (rs[k]).2.length cap) (z : Int) :
    RowsIn (w.setCell ⟨g, j, none⟩ (.int .i64 z)) base v (rs.set k ((rs[k]).1, (rs[k]).2.set j z)) ∧ Apart9 (rs.set k ((rs[k]).1, (rs[k]).2.set j z)) ∧ w.grownBy (w.setCell ⟨g, j, none⟩ (.int .i64 z)) (some g) ∧ base ≤ g := by
  have ho := h.2 _ (List.getElem_mem hk)
  have hgb : (rs[k]).1.ownBlock = some g := by rw [hv]; rfl
  have hbg := (ho.lt g hgb).1
  have hst := ho
  rw [hv] at hst
  obtain ⟨hst1, hst2⟩ := hst.stored j (.int .i64 z)
  rw [ints_set] at hst1
  refine ⟨⟨?_, fun r hr => ?_⟩, hap.set k _ (fun i hi hik => hap.ne hi hk hik), hst2, hbg⟩
  · have e : (rs.set k ((rs[k]).1, (rs[k]).2.set j z)).map (·.1) = rs.map (·.1) := by
      rw [List.map_set]
      apply List.ext_getElem (by simp)
      intro i h1 h2
      rw [List.getElem_set]
      split
      · rename_i hik; subst hik; simp
      · rfl
    rw [e, List.length_set]
    refine h.1.kept hst2 ?_
    rcases own_ne9 h.1 ho hne with h1 | h1
    · exact .inl h1
    · exact .inr (by rw [hgb] at h1; exact h1)
  · rcases mem_set9 hr with rfl | ⟨i, hi, hik, rfl⟩
    · dsimp only
      rw [hv, List.length_set]
      exact hst1
    · refine (h.2 _ (List.getElem_mem hi)).kept hst2 ?_
      have := hap.ne hi hk hik
      unfold Far9 at this
      rw [hgb] at this
      exact this
/-- one row is put in the place of another -/
theorem rows_setRow {w : World} {base : Nat} {rs : List RW} {g cap k : Nat} (h1 : w.ownsRow base 26 1 (.slice (some ⟨g, 0, none⟩) rs.length cap) rs.length (rs.map (·.1))) (h2 : ∀ i (hi : i < rs.length), i ≠ k → w.ownsRow base 3 1 (rs[i]).1 (rs[i]).2.length (ints (rs[i]).2))
    (hne : (26 : TypeId) ≠ 3) {q : RW} (hq : w.ownsRow base 3 1 q.1 q.2.length (ints q.2)) :
    RowsIn (w.setCell ⟨g, k, none⟩ q.1) base (.slice (some ⟨g, 0, none⟩) rs.length cap) (rs.set k q) ∧ w.grownBy (w.setCell ⟨g, k, none⟩ q.1) (some g) ∧ base ≤ g := by
  have hb := (h1.lt g rfl).1
  obtain ⟨hst1, hst2⟩ := h1.stored k q.1
  have hkeep : ∀ r : RW, w.ownsRow base 3 1 r.1 r.2.length (ints r.2) → (w.setCell ⟨g, k, none⟩ q.1).ownsRow base 3 1 r.1 r.2.length (ints r.2) := fun r ho => by
    refine ho.kept hst2 ?_
    rcases own_ne9 ho h1 (Ne.symm hne) with h | h
    · exact .inl h
    · exact .inr h
  refine ⟨⟨?_, fun r hr => ?_⟩, hst2, hb⟩
  · rw [List.map_set, List.length_set]; exact hst1
  · rcases mem_set9 hr with rfl | ⟨i, hi, hik, rfl⟩
    · exact hkeep _ hq
    · exact hkeep _ (h2 i hi hik)
end Go.Proofs.Ytnkgbolgcmjadaa
