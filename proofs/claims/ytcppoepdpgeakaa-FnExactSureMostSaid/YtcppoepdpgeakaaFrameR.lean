/- The frame's part for an argument that is a slice of slices of ints. -/
import Derived.Test.YtcppoepdpgeakaaFrame
import Derived.Test.YtcppoepdpgeakaaIntRows
import Derived.Deep.Slices
namespace Go.Proofs.Ytcppoepdpgeakaa
open Go.RowKit Go.ChangeShapes Go.WideShapes Go.Deep Go.Joins
section
variable {H : Type} {enc : TypeId × Value → H} {P : Program} {w : World} {base : Nat} {spare : Nat → Bool} {held : Bool}
theorem open_ints1 {t e : TypeId} {fuel : Nat} {v : Value} {x : DataW H × List MemPlace} (ht : P.underlying t = some (.slice e)) (he : P.underlying e = some (.int .i64)) (hc : P.cellsOf e = 1)
    (h : DataW.trod enc P w base spare held fuel t [v] = some x) : ∃ zs, RdInts w w.heap.size v zs := by
  rcases open_ints ht he hc h with ⟨hcs, _⟩ | ⟨x, l, c, zs, hcs, _, hl, hm, hz, _, hcell, hwz⟩
  · simp at hcs
    subst hcs
    exact ⟨_, RdInts.of_row (.inl ⟨rfl, rfl, rfl, rfl⟩)⟩
  · simp at hcs
    subst hcs
    have hlz : l ≤ zs.length := by rw [hz]; split <;> omega
    have hzc : zs.length ≤ c := by rw [hz]; split <;> omega
    refine ⟨zs.take l, some x, c, by rw [List.length_take, Nat.min_eq_left hlz], by rw [List.length_take]; omega, hm, fun j hj => ?_⟩
    rw [List.length_take, Nat.min_eq_left hlz] at hj
    obtain ⟨b, off, rfl, hb, hcell'⟩ := cell_add (hcell 0 (by omega)) (hcell j (by omega))
    refine ⟨b, off, rfl, hb, ?_⟩
    rw [hcell']
    simp [List.getD, hj]
theorem open_rows {t r e : TypeId} {fuel len cap : Nat} {a : Option Addr} {x : DataW H × List MemPlace} (ht : P.underlying t = some (.slice r)) (hr : P.underlying r = some (.slice e)) (he : P.underlying e = some (.int .i64)) (hcr : P.cellsOf r = 1) (hc : P.cellsOf e = 1)
    (h : DataW.trod enc P w base spare held fuel t (Value.slice a len cap).cells.toList = some x) : ∃ rs : List RW, len = rs.length ∧ RdRows w w.heap.size (.slice a len cap) rs := by
  rcases open_slice1 ht hcr h with ⟨hcs, _⟩ | ⟨y, l, c, m, n, V, D, Pl, hcs, _, hlc, hm, hmm, _, hat⟩
  · simp [Value.cells] at hcs
    obtain ⟨rfl, rfl, rfl⟩ := hcs
    exact ⟨[], rfl, none, 0, rfl, Nat.le_refl _, by unfold maxLen; omega, fun q hq => by simp at hq, fun j hj => by simp at hj⟩
  · simp [Value.cells] at hcs
    obtain ⟨rfl, rfl, rfl⟩ := hcs
    have hlm : len ≤ m := by rw [hmm]; split <;> omega
    have each : ∀ i, i < len → ∃ q : RW, V i = q.1 ∧ RdInts w w.heap.size q.1 q.2 := by
      intro i hi
      obtain ⟨_, h1⟩ := hat i (by omega)
      obtain ⟨zs, hzs⟩ := open_ints1 hr he hc h1
      exact ⟨(V i, zs), rfl, hzs⟩
    obtain ⟨q, hq⟩ := choose_lt each
    have hlen : ((List.range len).map q).length = len := by simp
    refine ⟨(List.range len).map q, hlen.symm, some y, cap, by rw [hlen], by omega, hm, ?_, fun i hi => ?_⟩
    · intro z hz
      obtain ⟨i, hi, rfl⟩ := List.mem_map.1 hz
      exact (hq i (List.mem_range.1 hi)).2
    · rw [hlen] at hi
      have h1 := (hat i (by omega)).1
      have h0 := (hat 0 (by omega)).1
      obtain ⟨e0, _⟩ := hq i hi
      have e : ((List.range len).map q).getD i rw0 = q i := by simp [List.getD, hi]
      rw [e, ← e0]
      obtain ⟨b, off, rfl, hb, hc1⟩ := cell_add h0 h1
      exact ⟨b, off, rfl, hb, hc1⟩
end
end Go.Proofs.Ytcppoepdpgeakaa
