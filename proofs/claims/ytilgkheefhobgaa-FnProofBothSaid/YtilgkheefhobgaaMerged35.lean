/- Texts of a proof, merged: ClaimE, ClaimF, ClaimG, MarksH, OneG. -/
import Derived.Test.YtilgkheefhobgaaMerged7
import Derived.Test.YtilgkheefhobgaaMerged6
import Derived.Deep.RegionHeld3
import Derived.Deep.Cut
import Derived.Test.YtilgkheefhobgaaMerged11
/- Contracts of what the laws do with claims. -/
namespace Go.Proofs.Ytilgkheefhobgaa
open Go.RowKit Go.Joins
/-- two blocks laid, one behind the other -/
theorem boxes_new (w : World) (a b c d : Value) (T U : TypeId) : ∃ w2 : World, w2 = (w.alloc (.cells #[a, b] T)).alloc (.cells #[c, d] U) ∧ Box w2 w.heap.size a b ∧ Box w2 (w.heap.size + 1) c d ∧ Below w.heap.size w w2 ∧ w.heap.size + 1 < w2.heap.size := by
  obtain ⟨w1, e1, h1, hb1, hs1⟩ := Box.new w a b T
  obtain ⟨w2, e2, h2, hb2, hs2⟩ := Box.new w1 c d U
  have e : w1.heap.size = w.heap.size + 1 := by rw [e1]; simp
  rw [e] at h2 hs2
  exact ⟨w2, by rw [e2, e1], h1.below hb2, h2, hb1.trans (hb2.mono hb1.size), hs2⟩
end Go.Proofs.Ytilgkheefhobgaa
/- Contracts of what the laws do with stories. -/
namespace Go.Proofs.Ytilgkheefhobgaa
open Go.RowKit Go.Joins
theorem below_drewR {B : Nat} {a w : World} (h : Below B a w) : Below B a w.drew := h.trans ⟨rfl, rfl, rfl, Nat.le_refl _, fun _ _ => rfl⟩
theorem same_len {xs ys : List QC} (h : xs.map (·.2) = ys.map (·.2)) : xs.length = ys.length := by
  have := congrArg List.length h
  simpa using this
theorem same_at {xs ys : List QC} (h : xs.map (·.2) = ys.map (·.2)) (j : Nat) : (xs.getD j qc0).2 = (ys.getD j qc0).2 := by
  have := congrArg (fun l => l.getD j qc0.2) h
  simpa [List.getD_eq_getElem?_getD, List.getElem?_map, Option.getD_map] using this
end Go.Proofs.Ytilgkheefhobgaa
/- Contracts of what the exact laws do with stories that came in. -/
namespace Go.Proofs.Ytilgkheefhobgaa
open Go.RowKit Go.Joins
theorem ccells_set (A R : List QC) (q q' : QC) (k : Nat) (hk : A.length = k) :
    ((ccells (A ++ q :: R)).set (k * 2) (.int .i64 q'.2.1)).set (k * 2 + 1) q'.1 = ccells (A ++ q' :: R) := by
  subst hk
  have hl := ccells_length A
  rw [ccells_append, ccells_append, List.set_append_right _ _ (by omega), List.set_append_right _ _ (by omega), hl]
  have e1 : A.length * 2 - A.length * 2 = 0 := by omega
  have e2 : A.length * 2 + 1 - A.length * 2 = 1 := by omega
  rw [e1, e2]
  rfl
theorem ccells_zero (n : Nat) : (madeCells #[Value.int .i64 0, Value.slice none 0 0] (n * 2)).toList = ccells (List.replicate n qc0) := by
  refine List.ext_getElem (by rw [ccells_length]; simp [madeCells]) fun i h1 h2 => ?_
  have hl : i < n * 2 := by rw [ccells_length] at h2; simpa using h2
  obtain ⟨g1, g2⟩ := ccells_get (List.replicate n qc0) (i / 2) (by simp; omega)
  have hq : (List.replicate n qc0).getD (i / 2) qc0 = qc0 := by
    rw [List.getD_eq_getElem?_getD, List.getElem?_replicate]
    split <;> rfl
  rw [hq] at g1 g2
  have hm : i % 2 = 0 ∨ i % 2 = 1 := by omega
  rcases hm with hm | hm
  · have ei : i / 2 * 2 = i := by omega
    rw [ei] at g1
    have := (List.getElem?_eq_some_iff.1 g1).2
    rw [this]
    simp [madeCells, hm, qc0]
  · have ei : i / 2 * 2 + 1 = i := by omega
    rw [ei] at g2
    have := (List.getElem?_eq_some_iff.1 g2).2
    rw [this]
    simp [madeCells, hm, qc0]
theorem rep_succ (n k : Nat) (h : k < n) : List.replicate (n - k) qc0 = qc0 :: List.replicate (n - (k + 1)) qc0 := by
  rw [show n - k = (n - (k + 1)) + 1 from by omega]; rfl
/-- what some claims say lies in blocks of which no two are the same -/
def Apart (us : List QC) : Prop := us.Pairwise fun a b => a.1.ownBlock = none ∨ a.1.ownBlock ≠ b.1.ownBlock
theorem Apart.snoc {us : List QC} {q : QC} {s : Nat} (h : Apart us) (hl : ∀ r ∈ us, ∀ k, r.1.ownBlock = some k → k < s) (hq : ∀ k, q.1.ownBlock = some k → s ≤ k) : Apart (us ++ [q]) := by
  refine List.pairwise_append.2 ⟨h, by simp, fun a ha b hb => ?_⟩
  simp at hb; subst hb
  exact own_apart (hl a ha) hq
end Go.Proofs.Ytilgkheefhobgaa
/- Contracts over rows of marks: numbers laid into a row, and held there. -/
namespace Go.Proofs.Ytilgkheefhobgaa
open Go.RowKit Go.Joins

/-- numbers laid one behind the other, two a mark -/
def lay (k0 n : Nat) : List (Int × Int) := (List.range n).map fun j => (((k0 + j * 2 : Nat) : Int), ((k0 + j * 2 + 1 : Nat) : Int))
theorem lay_length (k0 n : Nat) : (lay k0 n).length = n := by simp [lay]
theorem lay_succ (k0 n : Nat) : lay k0 (n + 1) = lay k0 n ++ [(((k0 + n * 2 : Nat) : Int), ((k0 + n * 2 + 1 : Nat) : Int))] := by simp [lay, List.range_succ]
theorem lay_get (k0 n j : Nat) (h : j < n) : (lay k0 n).getD j (0, 0) = (((k0 + j * 2 : Nat) : Int), ((k0 + j * 2 + 1 : Nat) : Int)) := by simp [lay, List.getD, h]
theorem lay_set (zs : List (Int × Int)) (k0 k : Nat) (hk : k < zs.length) :
    ((mcells (lay k0 k ++ zs.drop k)).set (k * 2) (.int .i64 ((k0 + k * 2 : Nat) : Int))).set (k * 2 + 1) (.int .i64 ((k0 + k * 2 + 1 : Nat) : Int)) = mcells (lay k0 (k + 1) ++ zs.drop (k + 1)) := by
  rw [List.drop_eq_getElem_cons hk, lay_succ, List.append_assoc]
  exact mcells_set (lay k0 k) (zs.drop (k + 1)) zs[k] (((k0 + k * 2 : Nat) : Int), ((k0 + k * 2 + 1 : Nat) : Int)) k (lay_length _ _)
theorem lay_I64 {k0 n : Nat} (h : k0 + n * 2 ≤ 4611686018427387904) : I64s (lay k0 n) := by
  intro m hm
  obtain ⟨j, hj, rfl⟩ := List.mem_map.1 hm
  have := List.mem_range.1 hj
  unfold I64
  dsimp only
  omega
attribute [local irreducible] lay


end Go.Proofs.Ytilgkheefhobgaa
/- Writing into stories, and reading what was written: contracts of the exact laws' own functions. -/
namespace Go.Proofs.Ytilgkheefhobgaa
open Go.RowKit Go.Joins
theorem RdStory.kept5 {w w' : World} {v : Value} {qs : List QC} (h : RdStory w w.heap.size v qs) (hb : Below w.heap.size w w') : RdStory w' w'.heap.size v qs := (h.below hb.block).mono hb.size
/-- how many numbers are written into a story -/
def ctot : List QC → Nat
  | [] => 0
  | q :: r => 1 + q.2.2.length * 2 + ctot r
/-- a story with the numbers from k on written into it -/
def laidC : Nat → List QC → List QC
  | _, [] => []
  | k, q :: r => (q.1, ((k : Int), lay (k + 1) q.2.2.length)) :: laidC (k + 1 + q.2.2.length * 2) r
theorem laidC_length (us : List QC) : ∀ k, (laidC k us).length = us.length := by
  induction us with
  | nil => intro k; rfl
  | cons q r ih => intro k; simp [laidC, ih]
theorem laidC_fst (us : List QC) : ∀ k, (laidC k us).map (·.1) = us.map (·.1) := by
  induction us with
  | nil => intro k; rfl
  | cons q r ih => intro k; simp [laidC, ih]
theorem ctot_succ (us : List QC) : ∀ i, i < us.length → ctot (us.take (i + 1)) = ctot (us.take i) + 1 + (us.getD i qc0).2.2.length * 2 := by
  induction us with
  | nil => intro i hi; simp at hi
  | cons q r ih =>
    intro i hi
    cases i with
    | zero => simp [ctot]
    | succ i =>
      have := ih i (by simpa using hi)
      simp only [List.take_succ_cons, ctot, List.getD_cons_succ]
      omega
theorem ctot_take_le (us : List QC) : ∀ i, ctot (us.take i) ≤ ctot us := by
  induction us with
  | nil => intro i; simp
  | cons q r ih =>
    intro i
    cases i with
    | zero => simp [ctot]
    | succ i => have := ih i; simp only [List.take_succ_cons, ctot]; omega
theorem laidC_get (us : List QC) : ∀ k i, i < us.length → (laidC k us).getD i qc0 = ((us.getD i qc0).1, (((k + ctot (us.take i) : Nat) : Int), lay (k + ctot (us.take i) + 1) (us.getD i qc0).2.2.length)) := by
  induction us with
  | nil => intro k i hi; simp at hi
  | cons q r ih =>
    intro k i hi
    cases i with
    | zero => simp [laidC, ctot]
    | succ i =>
      have := ih (k + 1 + q.2.2.length * 2) i (by simpa using hi)
      simp only [laidC, List.getD_cons_succ, List.take_succ_cons, ctot]
      rw [this]
      have e : k + 1 + q.2.2.length * 2 + ctot (r.take i) = k + (1 + q.2.2.length * 2 + ctot (r.take i)) := by omega
      rw [e]
/-- the first i claims are written, the others are as they were -/
def mixC (k : Nat) (us : List QC) (i : Nat) : List QC := (laidC k us).take i ++ us.drop i
theorem mixC_zero (k : Nat) (us : List QC) : mixC k us 0 = us := by simp [mixC]
theorem mixC_all (k : Nat) (us : List QC) : mixC k us us.length = laidC k us := by
  unfold mixC
  rw [List.take_of_length_le (by rw [laidC_length]; exact Nat.le_refl _), List.drop_length, List.append_nil]
theorem mixC_at (k : Nat) (us : List QC) (i : Nat) (hi : i < us.length) : mixC k us i = (laidC k us).take i ++ us.getD i qc0 :: us.drop (i + 1) := by
  unfold mixC
  have e : us.getD i qc0 = us[i] := by simp [List.getD, hi]
  rw [e, ← List.drop_eq_getElem_cons hi]
theorem mixC_succ (k : Nat) (us : List QC) (i : Nat) (hi : i < us.length) : mixC k us (i + 1) = (laidC k us).take i ++ (laidC k us).getD i qc0 :: us.drop (i + 1) := by
  unfold mixC
  have hl : i < (laidC k us).length := by rw [laidC_length]; exact hi
  have e : (laidC k us).getD i qc0 = (laidC k us)[i] := by simp [List.getD, hl]
  rw [List.take_succ_eq_append_getElem hl, e, List.append_assoc]
  rfl
theorem mixC_fst (k : Nat) (us : List QC) (i : Nat) : (mixC k us i).map (·.1) = us.map (·.1) := by
  unfold mixC
  rw [List.map_append, List.map_take, laidC_fst, List.map_drop, List.take_append_drop]
theorem Apart.of_fst {us vs : List QC} (h : Apart us) (e : vs.map (·.1) = us.map (·.1)) : Apart vs := by
  unfold Apart at h ⊢
  have h1 : (us.map (·.1)).Pairwise fun a b => a.ownBlock = none ∨ a.ownBlock ≠ b.ownBlock := List.pairwise_map.2 h
  rw [← e] at h1
  exact List.pairwise_map.1 h1
theorem Apart.mid {A R : List QC} {q : QC} (h : Apart (A ++ q :: R)) : (∀ r ∈ A, r.1.ownBlock = none ∨ r.1.ownBlock ≠ q.1.ownBlock) ∧ ∀ r ∈ R, r.1.ownBlock = none ∨ r.1.ownBlock ≠ q.1.ownBlock := by
  obtain ⟨_, h2, h3⟩ := List.pairwise_append.1 h
  obtain ⟨h4, _⟩ := List.pairwise_cons.1 h2
  refine ⟨fun r hr => h3 r hr q (by simp), fun r hr => ?_⟩
  rcases h4 r hr with h | h
  · cases hb : r.1.ownBlock with
    | none => exact .inl rfl
    | some k => rw [h]; exact .inr (by simp)
  · exact .inr fun e => h e.symm
/-- nothing is changed but a story's own blocks -/
def OnlyIn (us : List QC) (v : Value) (w w' : World) : Prop :=
  w'.os = w.os ∧ w'.tape = w.tape ∧ w'.output = w.output ∧ w.heap.size ≤ w'.heap.size ∧ ∀ i, i < w.heap.size → some i ≠ v.ownBlock → (∀ q ∈ us, some i ≠ q.1.ownBlock) → w'.heap[i]? = w.heap[i]?
theorem mixC_length (k : Nat) (us : List QC) (i : Nat) : (mixC k us i).length = us.length := by
  have := congrArg List.length (mixC_fst k us i)
  simpa using this
theorem ccells_set1 (A R : List QC) (u : Value) (k k' : Int) (ms : List (Int × Int)) (j : Nat) (hj : A.length = j) :
    (ccells (A ++ (u, (k, ms)) :: R)).set (j * 2) (.int .i64 k') = ccells (A ++ (u, (k', ms)) :: R) := by
  subst hj
  have hl := ccells_length A
  rw [ccells_append, ccells_append, List.set_append_right _ _ (by omega), hl, Nat.sub_self]
  rfl
theorem ccells_marks (A R : List QC) (u : Value) (k : Int) (ms ms' : List (Int × Int)) : ccells (A ++ (u, (k, ms)) :: R) = ccells (A ++ (u, (k, ms')) :: R) := by
  rw [ccells_append, ccells_append]; rfl
theorem OnlyIn.below {us : List QC} {v : Value} {w w' : World} {B : Nat} (h : OnlyIn us v w w') (hv : ∀ k, v.ownBlock = some k → B ≤ k) (hq : ∀ q ∈ us, ∀ k, q.1.ownBlock = some k → B ≤ k) (hB : B ≤ w.heap.size := by omega) : Below B w w' :=
  ⟨h.1, h.2.1, h.2.2.1, h.2.2.2.1, fun i hi => h.2.2.2.2 i (by omega) (fun e => by have := hv i e.symm; omega) (fun q hm e => by have := hq q hm i e.symm; omega)⟩
theorem own_only {us : List QC} {vv v : Value} {w w' : World} {base n size : Nat} {e : TypeId} {xs : List Value} (h : w.ownsRow base e size v n xs) (ho : OnlyIn us vv w w') (hv : ∀ k, v.ownBlock = some k → some k ≠ vv.ownBlock) (hq : ∀ k, v.ownBlock = some k → ∀ q ∈ us, some k ≠ q.1.ownBlock) : w'.ownsRow base e size v n xs := by
  refine ⟨h.1, ?_⟩
  rcases h.2 with h2 | ⟨g, cap, cur, rfl, hb, hg, h3⟩
  · exact .inl h2
  · refine .inr ⟨g, cap, cur, rfl, hb, ?_, h3⟩
    rw [← hg]
    exact ho.2.2.2.2 g (Array.getElem?_eq_some_iff.1 hg).1 (hv g rfl) (hq g rfl)
/-- a story's blocks lie between its base and the heap's end -/
theorem StoryIn.inside {w : World} {b : Nat} {v : Value} {us : List QC} (h : StoryIn w b b v us) : (∀ k, v.ownBlock = some k → b ≤ k ∧ k < w.heap.size) ∧ ∀ q ∈ us, ∀ k, q.1.ownBlock = some k → b ≤ k ∧ k < w.heap.size :=
  ⟨fun k hk => h.1.lt k hk, fun q hq k hk => (h.2 q hq).1.lt k hk⟩
theorem ctot_bound (us : List QC) (hl : us.length ≤ 1048576) (hm : ∀ q ∈ us, q.2.2.length ≤ 1048576) : ctot us ≤ 4000000000000 := by
  have h : ∀ l : List QC, (∀ q ∈ l, q.2.2.length ≤ 1048576) → ctot l ≤ l.length * 2097153 := fun l => by
    induction l with
    | nil => intro _; simp [ctot]
    | cons q r ih =>
      intro h
      have h1 := ih (fun q hq => h q (by simp [hq]))
      have h2 := h q (by simp)
      simp only [ctot, List.length_cons]
      omega
  have := h us hm
  have h2 : us.length * 2097153 ≤ 1048576 * 2097153 := Nat.mul_le_mul_right _ hl
  omega
theorem story_bound {us zs : List QC} (he : us.map (·.2) = zs.map (·.2)) (hl : zs.length ≤ 1048576) (hm : ∀ j, j < zs.length → (zs.getD j qc0).2.2.length ≤ 1048576) : us.length ≤ 1048576 ∧ ∀ q ∈ us, q.2.2.length ≤ 1048576 := by
  have hlen := congrArg List.length he
  simp at hlen
  refine ⟨by omega, fun q hq => ?_⟩
  have h1 : q.2 ∈ us.map (·.2) := List.mem_map.2 ⟨q, hq, rfl⟩
  rw [he] at h1
  obtain ⟨z, hz, e⟩ := List.mem_map.1 h1
  obtain ⟨j, hj, ez⟩ := List.getElem_of_mem hz
  have := hm j hj
  rw [show zs.getD j qc0 = z by simp [List.getD, hj, ez]] at this
  rw [← e]; exact this
theorem OnlyIn.refl (us : List QC) (v : Value) (w : World) : OnlyIn us v w w := ⟨rfl, rfl, rfl, Nat.le_refl _, fun _ _ _ _ => rfl⟩
theorem OnlyIn.row {us : List QC} {v : Value} {w w1 w2 : World} {row : Option Nat} (h : OnlyIn us v w w1) (hg : w1.grownBy w2 row) (hr : row = none ∨ row = v.ownBlock ∨ ∃ q ∈ us, row = q.1.ownBlock) : OnlyIn us v w w2 := by
  obtain ⟨h1, h2, h3, h4, h5⟩ := h
  refine ⟨hg.os.trans h1, hg.tape.trans h2, hg.output.trans h3, Nat.le_trans h4 hg.size, fun i hi hv hq => ?_⟩
  rw [← h5 i hi hv hq]
  refine hg.block i (by omega) ?_
  rcases hr with h | h | ⟨q, hm, h⟩
  · rw [h]; simp
  · rw [h]; exact fun e => hv e
  · rw [h]; exact fun e => hq q hm e
/-- one claim more is written -/
theorem mark_step {w wr : World} {base ib g cap : Nat} {us : List QC} {k0 j K : Nat} (hj : j < us.length) (hK : K = k0 + ctot (us.take j)) (hk0 : k0 + ctot us ≤ 4611686018427387904) (hap : Apart us)
    (hst : StoryIn wr base ib (.slice (some ⟨g, 0, none⟩) us.length cap) (mixC k0 us j)) (ho : OnlyIn us (.slice (some ⟨g, 0, none⟩) us.length cap) w wr) :
    (wr.setCell ⟨g, j * 2, none⟩ (.int .i64 K)).ownsRow ib TM 2 (us.getD j qc0).1 (us.getD j qc0).2.2.length (mcells (us.getD j qc0).2.2) ∧
    wr.cell? ⟨g, j * 2 + 1, none⟩ = some (us.getD j qc0).1 ∧ wr.cell? ⟨g, j * 2, none⟩ = some (.int .i64 (us.getD j qc0).2.1) ∧ wr.frozen? ⟨g, j * 2, none⟩ = false ∧
    ∀ w2 : World, w2.ownsRow ib TM 2 (us.getD j qc0).1 (us.getD j qc0).2.2.length (mcells (lay (K + 1) (us.getD j qc0).2.2.length)) → (wr.setCell ⟨g, j * 2, none⟩ (.int .i64 K)).grownBy w2 (us.getD j qc0).1.ownBlock →
      StoryIn w2 base ib (.slice (some ⟨g, 0, none⟩) us.length cap) (mixC k0 us (j + 1)) ∧ OnlyIn us (.slice (some ⟨g, 0, none⟩) us.length cap) w w2 := by
  have hA : ((laidC k0 us).take j).length = j := by rw [List.length_take, laidC_length]; omega
  have hlg := laidC_get us k0 j hj
  rw [← hK] at hlg
  have e0 := mixC_at k0 us j hj
  have e1 := mixC_succ k0 us j hj
  have hlen := mixC_length k0 us j
  have hlen1 := mixC_length k0 us (j + 1)
  have hap0 := hap.of_fst (mixC_fst k0 us j)
  have hctl := ctot_take_le us (j + 1)
  have hcs := ctot_succ us j hj
  have hmem : us.getD j qc0 ∈ us := by
    have e : us.getD j qc0 = us[j] := by simp [List.getD, hj]
    rw [e]; exact List.getElem_mem hj
  have hfst : (us.getD j qc0).1.ownBlock = none ∨ ∃ q ∈ us, (us.getD j qc0).1.ownBlock = q.1.ownBlock := .inr ⟨_, hmem, rfl⟩
  rw [e0] at hap0
  obtain ⟨hown, hin⟩ := hst
  rw [hlen] at hown
  rw [e0] at hown hin
  rw [hlg] at e1
  have hqj := (hin (us.getD j qc0) (by simp)).1
  have hcell := hown.cellAt (j * 2) (by omega)
  have hcell1 := hown.cellAt (j * 2 + 1) (by omega)
  have hfz := hown.frozenAt (j * 2)
  have hget := ccells_get (mixC k0 us j) j (by rw [hlen]; exact hj)
  have hgd : (mixC k0 us j).getD j qc0 = us.getD j qc0 := by
    rw [e0, List.getD_eq_getElem?_getD, List.getElem?_append_right (by omega), hA, Nat.sub_self]
    rfl
  rw [hgd, e0] at hget
  rw [hget.1] at hcell
  rw [hget.2] at hcell1
  have hs := hown.stored (j * 2) (.int .i64 K)
  generalize us.getD j qc0 = q at *
  obtain ⟨u, k, ms⟩ := q
  dsimp only at hqj hcell hcell1 hfst e1 ⊢
  rw [ccells_set1 _ _ _ _ _ _ j hA] at hs
  obtain ⟨hs1, hs2⟩ := hs
  have hk1 : ∀ {x : Value} {zs : List (Int × Int)}, wr.ownsRow ib TM 2 x zs.length (mcells zs) → (wr.setCell ⟨g, j * 2, none⟩ (.int .i64 K)).ownsRow ib TM 2 x zs.length (mcells zs) := fun h => h.kept hs2 (own_ne h hown TM_TC)
  have hu1 := hk1 hqj
  refine ⟨hu1, hcell1, hcell, hfz, fun w2 hu2 hg2 => ?_⟩
  obtain ⟨hmA, hmR⟩ := hap0.mid
  refine ⟨⟨?_, ?_⟩, (ho.row hs2 (.inr (.inl rfl))).row hg2 (hfst.elim .inl (fun h => .inr (.inr h)))⟩
  · rw [hlen1, e1, ccells_marks _ _ _ _ (lay (K + 1) ms.length) ms]
    exact hs1.kept hg2 (own_ne hs1 hu1 (fun e => TM_TC e.symm))
  · intro r hr
    rw [e1] at hr
    simp only [List.mem_append, List.mem_cons] at hr
    rcases hr with hr | rfl | hr
    · have := hin r (by simp [hr])
      exact ⟨(hk1 this.1).kept hg2 (hmA r hr), this.2⟩
    · dsimp only at hcs ⊢
      rw [lay_length]
      exact ⟨hu2, lay_I64 (by omega), by unfold I64; omega⟩
    · have := hin r (by simp [hr])
      exact ⟨(hk1 this.1).kept hg2 (hmR r hr), this.2⟩
end Go.Proofs.Ytilgkheefhobgaa
