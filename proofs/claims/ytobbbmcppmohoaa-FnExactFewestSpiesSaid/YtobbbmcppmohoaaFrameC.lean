/- The frame's part for arguments that are a claim, or a slice of claims. -/
import Derived.Test.YtobbbmcppmohoaaFrameM
import Derived.Test.YtobbbmcppmohoaaClaim
import Derived.Lib.SmallJoins
namespace Go.Proofs.Ytobbbmcppmohoaa
open Go.RowKit Go.ChangeShapes Go.WideShapes Go.Deep Go.Joins
section
variable {H : Type} {enc : TypeId × Value → H} {P : Program} {w : World} {base : Nat} {spare : Nat → Bool} {held : Bool}
theorem open_marks1 {t e : TypeId} {f0 f1 : Field} {fuel : Nat} {v : Value} {x : DataW H × List MemPlace} (ht : P.underlying t = some (.slice e)) (he : P.underlying e = some (.struct #[f0, f1]))
    (ce : P.cellsOf e = 2) (o0 : f0.offset = 0) (o1 : f1.offset = 1) (c0 : P.cellsOf f0.type = 1) (c1 : P.cellsOf f1.type = 1)
    (i0 : P.underlying f0.type = some (.int .i64)) (i1 : P.underlying f1.type = some (.int .i64))
    (h : DataW.trod enc P w base spare held fuel t [v] = some x) : ∃ ms, RdMarks w w.heap.size v ms := by
  obtain ⟨a, len, cap, rfl⟩ : ∃ a len cap, v = .slice a len cap := by
    rcases open_slice_pairs ht he ce o0 o1 c0 c1 h with ⟨hcs, _⟩ | ⟨y, l, c, m, n, V0, V1, D0, D1, P0, P1, hcs, _⟩
    · exact ⟨_, _, _, by simpa using hcs⟩
    · exact ⟨_, _, _, by simpa using hcs⟩
  obtain ⟨ms, hms⟩ := open_marks ht he ce o0 o1 c0 c1 i0 i1 (show DataW.trod enc P w base spare held fuel t (Value.slice a len cap).cells.toList = some x from h)
  exact ⟨ms, RdMarks.of_row hms⟩
theorem open_claim {r : Reach} {b0 : Nat} {t e : TypeId} {f0 f1 g0 g1 : Field} {v : Value} {d : DataW H} {p : List MemPlace} (hs : P.underlying t = some (.struct #[f0, f1])) (hone : oneCellFields P #[f0, f1] = true) (hC : P.cellsOf t = 2)
    (i0 : P.underlying f0.type = some (.int .i64)) (ht : P.underlying f1.type = some (.slice e)) (he : P.underlying e = some (.struct #[g0, g1]))
    (ce : P.cellsOf e = 2) (o0 : g0.offset = 0) (o1 : g1.offset = 1) (c0 : P.cellsOf g0.type = 1) (c1 : P.cellsOf g1.type = 1)
    (j0 : P.underlying g0.type = some (.int .i64)) (j1 : P.underlying g1.type = some (.int .i64))
    (hv : Value.okWide P w r b0 t v) (h : DataW.Trod enc P w base spare held t v d p) :
    ∃ (k : Int) (u : Value) (ms : List (Int × Int)), v = .agg #[.int .i64 k, u] ∧ I64 k ∧ RdMarks w w.heap.size u ms := by
  obtain ⟨v0, v1, y0, y1, n, rfl, _, _, h0, h1⟩ := open_agg2 hs hone hC hv h
  obtain ⟨k, e0, _, w0⟩ := DataW.trod_int i0 h0
  obtain ⟨ms, hms⟩ := open_marks1 ht he ce o0 o1 c0 c1 j0 j1 h1
  exact ⟨k, v1, ms, by simp at e0; rw [e0], I64_of_wf w0, hms⟩
theorem open_story {t s e : TypeId} {f0 f1 g0 g1 : Field} {fuel len cap : Nat} {a : Option Addr} {x : DataW H × List MemPlace} (hl : P.underlying t = some (.slice s)) (hs : P.underlying s = some (.struct #[f0, f1]))
    (cs : P.cellsOf s = 2) (q0 : f0.offset = 0) (q1 : f1.offset = 1) (d0 : P.cellsOf f0.type = 1) (d1 : P.cellsOf f1.type = 1)
    (i0 : P.underlying f0.type = some (.int .i64)) (ht : P.underlying f1.type = some (.slice e)) (he : P.underlying e = some (.struct #[g0, g1]))
    (ce : P.cellsOf e = 2) (o0 : g0.offset = 0) (o1 : g1.offset = 1) (c0 : P.cellsOf g0.type = 1) (c1 : P.cellsOf g1.type = 1)
    (j0 : P.underlying g0.type = some (.int .i64)) (j1 : P.underlying g1.type = some (.int .i64))
    (h : DataW.trod enc P w base spare held fuel t (Value.slice a len cap).cells.toList = some x) : ∃ qs, len = qs.length ∧ RdStory w w.heap.size (.slice a len cap) qs := by
  rcases open_slice_pairs hl hs cs q0 q1 d0 d1 h with ⟨hcs, _⟩ | ⟨y, l, c, m, n, V0, V1, D0, D1, P0, P1, hcs, _, hlc, hm, hmm, _, hat⟩
  · simp [Value.cells] at hcs
    obtain ⟨rfl, rfl, rfl⟩ := hcs
    exact ⟨[], rfl, none, 0, rfl, Nat.le_refl _, by unfold maxLen; omega, fun q hq => by simp at hq, fun j hj => by simp at hj⟩
  · simp [Value.cells] at hcs
    obtain ⟨rfl, rfl, rfl⟩ := hcs
    have hlm : len ≤ m := by rw [hmm]; split <;> omega
    have each : ∀ i, i < len → ∃ q : QC, V0 i = .int .i64 q.2.1 ∧ V1 i = q.1 ∧ RdMarks w w.heap.size q.1 q.2.2 ∧ I64 q.2.1 := by
      intro i hi
      obtain ⟨_, _, h0, h1⟩ := hat i (by omega)
      obtain ⟨n0, e0, _, w0⟩ := DataW.trod_int i0 h0
      obtain ⟨ms, hms⟩ := open_marks1 ht he ce o0 o1 c0 c1 j0 j1 h1
      exact ⟨(V1 i, (n0, ms)), by simpa using e0, rfl, hms, I64_of_wf w0⟩
    obtain ⟨q, hq⟩ := choose_lt each
    have hlen : ((List.range len).map q).length = len := by simp
    refine ⟨(List.range len).map q, hlen.symm, some y, cap, by rw [hlen], by omega, hm, ?_, fun i hi => ?_⟩
    · intro z hz
      obtain ⟨i, hi, rfl⟩ := List.mem_map.1 hz
      exact (hq i (List.mem_range.1 hi)).2.2
    · rw [hlen] at hi
      obtain ⟨h1, h2, _, _⟩ := hat i (by omega)
      have h0 := (hat 0 (by omega)).1
      rw [Nat.zero_mul] at h0
      obtain ⟨e0, e1, _, _⟩ := hq i hi
      have e : ((List.range len).map q).getD i qc0 = q i := by simp [List.getD, hi]
      rw [e, ← e0, ← e1]
      obtain ⟨b, off, rfl, hb, hc1⟩ := cell_add h0 h1
      obtain ⟨b', off', he', _, hc2⟩ := cell_add h0 h2
      cases he'
      exact ⟨b, off, rfl, hb, hc1, by rw [Nat.add_assoc]; exact hc2⟩
end
end Go.Proofs.Ytobbbmcppmohoaa
