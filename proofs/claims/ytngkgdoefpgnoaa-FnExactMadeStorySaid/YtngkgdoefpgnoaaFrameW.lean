/- The frame's part for an argument that is a slice of slices of marks. -/
import Derived.Test.YtngkgdoefpgnoaaMerged21
import Derived.Test.YtngkgdoefpgnoaaMerged20
import Derived.Deep.Slices
namespace Go.Proofs.Ytngkgdoefpgnoaa
open Go.RowKit Go.ChangeShapes Go.WideShapes Go.Deep Go.Joins
section
variable {H : Type} {enc : TypeId × Value → H} {P : Program} {w : World} {base : Nat} {spare : Nat → Bool} {held : Bool}
theorem open_terms {t r e : TypeId} {f0 f1 : Field} {fuel len cap : Nat} {a : Option Addr} {x : DataW H × List MemPlace} (ht : P.underlying t = some (.slice r)) (hcr : P.cellsOf r = 1) (hr : P.underlying r = some (.slice e)) (he : P.underlying e = some (.struct #[f0, f1]))
    (ce : P.cellsOf e = 2) (o0 : f0.offset = 0) (o1 : f1.offset = 1) (c0 : P.cellsOf f0.type = 1) (c1 : P.cellsOf f1.type = 1)
    (i0 : P.underlying f0.type = some (.int .i64)) (i1 : P.underlying f1.type = some (.int .i64))
    (h : DataW.trod enc P w base spare held fuel t (Value.slice a len cap).cells.toList = some x) : ∃ rs : List RT, len = rs.length ∧ RdTerms w w.heap.size (.slice a len cap) rs := by
  rcases open_slice1 ht hcr h with ⟨hcs, _⟩ | ⟨y, l, c, m, n, V, D, Pl, hcs, _, hlc, hm, hmm, _, hat⟩
  · simp [Value.cells] at hcs
    obtain ⟨rfl, rfl, rfl⟩ := hcs
    exact ⟨[], rfl, none, 0, rfl, Nat.le_refl _, by unfold maxLen; omega, fun q hq => by simp at hq, fun j hj => by simp at hj⟩
  · simp [Value.cells] at hcs
    obtain ⟨rfl, rfl, rfl⟩ := hcs
    have hlm : len ≤ m := by rw [hmm]; split <;> omega
    have each : ∀ i, i < len → ∃ q : RT, V i = q.1 ∧ RdMarks w w.heap.size q.1 q.2 := by
      intro i hi
      obtain ⟨_, h1⟩ := hat i (by omega)
      obtain ⟨zs, hzs⟩ := open_marks1 hr he ce o0 o1 c0 c1 i0 i1 h1
      exact ⟨(V i, zs), rfl, hzs⟩
    obtain ⟨q, hq⟩ := choose_lt each
    have hlen : ((List.range len).map q).length = len := by simp
    refine ⟨(List.range len).map q, hlen.symm, some y, cap, by rw [hlen], by omega, hm, ?_, fun i hi => ?_⟩
    · intro z hz
      obtain ⟨i, hi, rfl⟩ := List.mem_map.1 hz
      exact (hq i (List.mem_range.1 hi)).2
    · rw [hlen] at hi
      have h1 := (hat i (by omega)).1
      have h0 := (hat 0 (by omega)).1
      obtain ⟨e0, _⟩ := hq i hi
      have e : ((List.range len).map q).getD i rt0 = q i := by simp [List.getD, hi]
      rw [e, ← e0]
      obtain ⟨b, off, rfl, hb, hc1⟩ := cell_add h0 h1
      exact ⟨b, off, rfl, hb, hc1⟩
end
end Go.Proofs.Ytngkgdoefpgnoaa
