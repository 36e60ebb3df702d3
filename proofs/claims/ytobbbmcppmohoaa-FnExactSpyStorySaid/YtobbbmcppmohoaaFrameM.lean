/- The frame's part for an argument that is a slice of structs of two ints. -/
import Derived.Test.YtobbbmcppmohoaaFrame
import Derived.Test.YtobbbmcppmohoaaTerm
import Derived.Deep.SlicePairs
namespace Go.Proofs.Ytobbbmcppmohoaa
open Go.RowKit Go.ChangeShapes Go.WideShapes Go.Deep

/-- a slice of marks that came in: nil, or a row whose first len elements read as ms -/
def IsMarks (w : World) (a : Option Addr) (len cap : Nat) (ms : List (Int × Int)) : Prop :=
  (a = none ∧ len = 0 ∧ cap = 0 ∧ ms = []) ∨
  ∃ x, a = some x ∧ len ≤ cap ∧ cap ≤ maxLen ∧ ms.length = len ∧ I64s ms ∧ ∀ i, i < len → w.cell? (x.add (i * 2)) = some (.int .i64 (ms.getD i (0, 0)).1) ∧ w.cell? (x.add (i * 2 + 1)) = some (.int .i64 (ms.getD i (0, 0)).2)

theorem I64_of_wf {n : Int} (h : (Lit.int .i64 n).wf = true) : I64 n := by
  simpa [Lit.wf, IntKind.min, IntKind.max, IntKind.signed, IntKind.bits, I64] using h

theorem RdMarks.of_row {w : World} {a : Option Addr} {len cap : Nat} {ms : List (Int × Int)} (h : IsMarks w a len cap ms) : RdMarks w w.heap.size (.slice a len cap) ms := by
  rcases h with ⟨rfl, rfl, rfl, rfl⟩ | ⟨x, rfl, hl, hm, hz, hi, hc⟩
  · exact ⟨none, 0, rfl, Nat.le_refl _, by unfold maxLen; omega, by intro m hm; simp at hm, fun j hj => by simp at hj⟩
  · refine ⟨some x, cap, by rw [hz], by omega, hm, hi, fun j hj => ?_⟩
    obtain ⟨h1, h2⟩ := hc j (by omega)
    have h0 := (hc 0 (by omega)).1
    rw [Nat.zero_mul] at h0
    obtain ⟨b, off, rfl, hb, hc1⟩ := cell_add h0 h1
    obtain ⟨b', off', he, _, hc2⟩ := cell_add h0 h2
    cases he
    exact ⟨b, off, rfl, hb, hc1, by rw [Nat.add_assoc]; exact hc2⟩

section
variable {H : Type} {enc : TypeId × Value → H} {P : Program} {w : World} {base : Nat} {spare : Nat → Bool} {held : Bool}
theorem open_marks {t e : TypeId} {f0 f1 : Field} {fuel len cap : Nat} {a : Option Addr} {x : DataW H × List MemPlace} (ht : P.underlying t = some (.slice e)) (he : P.underlying e = some (.struct #[f0, f1]))
    (ce : P.cellsOf e = 2) (o0 : f0.offset = 0) (o1 : f1.offset = 1) (c0 : P.cellsOf f0.type = 1) (c1 : P.cellsOf f1.type = 1)
    (i0 : P.underlying f0.type = some (.int .i64)) (i1 : P.underlying f1.type = some (.int .i64))
    (h : DataW.trod enc P w base spare held fuel t (Value.slice a len cap).cells.toList = some x) : ∃ ms, IsMarks w a len cap ms := by
  rcases open_slice_pairs ht he ce o0 o1 c0 c1 h with ⟨hcs, _⟩ | ⟨y, l, c, m, n, V0, V1, D0, D1, P0, P1, hcs, _, hl, hm, hmm, _, hat⟩
  · simp [Value.cells] at hcs
    obtain ⟨rfl, rfl, rfl⟩ := hcs
    exact ⟨[], .inl ⟨rfl, rfl, rfl, rfl⟩⟩
  · simp [Value.cells] at hcs
    obtain ⟨rfl, rfl, rfl⟩ := hcs
    have hlm : len ≤ m := by rw [hmm]; split <;> omega
    have each : ∀ i, i < len → ∃ q : Int × Int, V0 i = .int .i64 q.1 ∧ V1 i = .int .i64 q.2 ∧ I64 q.1 ∧ I64 q.2 := by
      intro i hi
      obtain ⟨_, _, h0, h1⟩ := hat i (by omega)
      obtain ⟨n0, e0, _, w0⟩ := DataW.trod_int i0 h0
      obtain ⟨n1, e1, _, w1⟩ := DataW.trod_int i1 h1
      exact ⟨(n0, n1), by simpa using e0, by simpa using e1, I64_of_wf w0, I64_of_wf w1⟩
    obtain ⟨q, hq⟩ := choose_lt each
    refine ⟨(List.range len).map q, .inr ⟨y, rfl, hl, hm, by simp, ?_, fun i hi => ?_⟩⟩
    · intro z hz
      obtain ⟨i, hi, rfl⟩ := List.mem_map.1 hz
      exact (hq i (List.mem_range.1 hi)).2.2
    · obtain ⟨h0, h1, _, _⟩ := hat i (by omega)
      obtain ⟨e0, e1, _, _⟩ := hq i hi
      have : ((List.range len).map q).getD i (0, 0) = q i := by simp [List.getD, hi]
      rw [this, h0, h1, e0, e1]
      exact ⟨rfl, rfl⟩
end
end Go.Proofs.Ytobbbmcppmohoaa
