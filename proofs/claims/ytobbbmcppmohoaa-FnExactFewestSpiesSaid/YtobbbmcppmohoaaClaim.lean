/- Claims and stories in memory. -/
import Derived.Test.YtobbbmcppmohoaaClaimM
import Derived.Test.YtobbbmcppmohoaaDrawP
namespace Go.Proofs.Ytobbbmcppmohoaa
open Go.RowKit Go.Joins
abbrev TC : TypeId := 33
/-- a claim, and the slice that its marks are -/
abbrev QC := Value × Cl
def qc0 : QC := (.slice none 0 0, (0, []))
/-- the cells of some claims -/
def ccells : List QC → List Value
  | [] => []
  | q :: r => .int .i64 q.2.1 :: q.1 :: ccells r
theorem ccells_length (qs : List QC) : (ccells qs).length = qs.length * 2 := by
  induction qs with
  | nil => rfl
  | cons m r ih => simp [ccells, ih]; omega
theorem ccells_append (xs ys : List QC) : ccells (xs ++ ys) = ccells xs ++ ccells ys := by
  induction xs with
  | nil => rfl
  | cons m r ih => simp [ccells, ih]
theorem ccells_get (qs : List QC) : ∀ j, j < qs.length → (ccells qs)[j * 2]? = some (.int .i64 (qs.getD j qc0).2.1) ∧ (ccells qs)[j * 2 + 1]? = some (qs.getD j qc0).1 := by
  induction qs with
  | nil => intro j hj; simp at hj
  | cons m r ih =>
    intro j hj
    cases j with
    | zero => simp [ccells]
    | succ j =>
      have := ih j (by simpa using hj)
      have e1 : (j + 1) * 2 = j * 2 + 1 + 1 := by omega
      have e2 : (j + 1) * 2 + 1 = j * 2 + 1 + 1 + 1 := by omega
      rw [e1]
      simpa [ccells] using this
theorem ccells_one {qs : List QC} (h : ∀ q ∈ qs, q.1.oneCell' = true) : ∀ u ∈ ccells qs, u.oneCell' = true := by
  induction qs with
  | nil => intro u hu; simp [ccells] at hu
  | cons m r ih =>
    intro u hu
    simp only [ccells, List.mem_cons] at hu
    rcases hu with rfl | rfl | hu
    · rfl
    · exact h m (by simp)
    · exact ih (fun q hq => h q (by simp [hq])) u hu
/-- v is a slice of claims that reads as qs; it and what they say lie below block B -/
def RdStory (w : World) (B : Nat) (v : Value) (qs : List QC) : Prop :=
  ∃ ao cap, v = .slice ao qs.length cap ∧ qs.length ≤ cap ∧ cap ≤ maxLen ∧ (∀ q ∈ qs, RdMarks w B q.1 q.2.2 ∧ I64 q.2.1) ∧
    ∀ j, j < qs.length → ∃ b off, ao = some ⟨b, off, none⟩ ∧ b < B ∧ w.cell? ⟨b, off + j * 2, none⟩ = some (.int .i64 (qs.getD j qc0).2.1) ∧ w.cell? ⟨b, off + j * 2 + 1, none⟩ = some (qs.getD j qc0).1
theorem RdStory.below {w w' : World} {B : Nat} {v : Value} {qs : List QC} (h : RdStory w B v qs) (hb : ∀ k, k < B → w'.heap[k]? = w.heap[k]?) : RdStory w' B v qs := by
  obtain ⟨ao, cap, hv, hl, hm, hi, hc⟩ := h
  refine ⟨ao, cap, hv, hl, hm, fun q hq => ⟨(hi q hq).1.below hb, (hi q hq).2⟩, fun j hj => ?_⟩
  obtain ⟨b, off, ha, hB, hc1, hc2⟩ := hc j hj
  exact ⟨b, off, ha, hB, by rw [← hc1]; exact World.cell?_of_block (w := w) (hb b hB), by rw [← hc2]; exact World.cell?_of_block (w := w) (hb b hB)⟩
theorem RdStory.mono {w : World} {B B' : Nat} {v : Value} {qs : List QC} (h : RdStory w B v qs) (hB : B ≤ B') : RdStory w B' v qs := by
  obtain ⟨ao, cap, hv, hl, hm, hi, hc⟩ := h
  refine ⟨ao, cap, hv, hl, hm, fun q hq => ⟨(hi q hq).1.mono hB, (hi q hq).2⟩, fun j hj => ?_⟩
  obtain ⟨b, off, ha, hb, hc1, hc2⟩ := hc j hj
  exact ⟨b, off, ha, by omega, hc1, hc2⟩
theorem RdStory.get {w : World} {B : Nat} {v : Value} {qs : List QC} (h : RdStory w B v qs) {j : Nat} (hj : j < qs.length) : RdMarks w B (qs.getD j qc0).1 (qs.getD j qc0).2.2 ∧ I64 (qs.getD j qc0).2.1 := by
  obtain ⟨_, _, _, _, _, hi, _⟩ := h
  have e : qs.getD j qc0 = qs[j] := by simp [List.getD, hj]
  rw [e]; exact hi _ (List.getElem_mem hj)
/-- a row of claims of the call's own, and what they say in rows of the call's own -/
def StoryIn (w : World) (base ib : Nat) (v : Value) (qs : List QC) : Prop :=
  w.ownsRow base TC 2 v qs.length (ccells qs) ∧ ∀ q ∈ qs, w.ownsRow ib TM 2 q.1 q.2.2.length (mcells q.2.2) ∧ I64s q.2.2 ∧ I64 q.2.1
theorem own_one {w : World} {base n size : Nat} {e : TypeId} {v : Value} {xs : List Value} (h : w.ownsRow base e size v n xs) : v.oneCell' = true := by
  rcases h.2 with ⟨rfl, _⟩ | ⟨g, cap, cur, rfl, _⟩ <;> rfl
theorem StoryIn.rd {w : World} {base ib : Nat} {v : Value} {qs : List QC} (h : StoryIn w base ib v qs) : RdStory w w.heap.size v qs := by
  obtain ⟨ho, hq⟩ := h
  have hq' : ∀ q ∈ qs, RdMarks w w.heap.size q.1 q.2.2 ∧ I64 q.2.1 := fun q hm => ⟨RdMarks.of_own (hq q hm).1 (hq q hm).2.1, (hq q hm).2.2⟩
  rcases ho.2 with ⟨rfl, hn⟩ | ⟨g, cap, cur, rfl, hb, hg, hnc, hcm, hcs, htake⟩
  · have : qs = [] := List.eq_nil_of_length_eq_zero hn
    subst this
    exact ⟨none, 0, rfl, Nat.le_refl _, by unfold maxLen; omega, hq', fun j hj => by simp at hj⟩
  · refine ⟨_, cap, rfl, hnc, hcm, hq', fun j hj => ⟨g, 0, rfl, (Array.getElem?_eq_some_iff.1 hg).1, ?_, ?_⟩⟩
    · rw [cell_of_row w g (0 + j * 2) cur TC (0, 0) hg]
      have h1 := (ccells_get qs j hj).1
      rw [← htake, List.getElem?_take] at h1
      split at h1
      · simpa using h1
      · cases h1
    · rw [cell_of_row w g (0 + j * 2 + 1) cur TC (0, 0) hg]
      have h1 := (ccells_get qs j hj).2
      rw [← htake, List.getElem?_take] at h1
      split at h1
      · simpa using h1
      · cases h1
theorem StoryIn.alloc {w : World} {base ib : Nat} {v : Value} {qs : List QC} (h : StoryIn w base ib v qs) (o : Obj) : StoryIn (w.alloc o) base ib v qs :=
  ⟨h.1.alloc o, fun q hq => ⟨(h.2 q hq).1.alloc o, (h.2 q hq).2⟩⟩
theorem StoryIn.below {w w' : World} {base ib : Nat} {v : Value} {qs : List QC} (h : StoryIn w base ib v qs) (hb : Below w.heap.size w w') : StoryIn w' base ib v qs :=
  ⟨own_below h.1 hb, fun q hq => ⟨own_below (h.2 q hq).1 hb, (h.2 q hq).2⟩⟩
theorem StoryIn.row {w w' : World} {base ib b : Nat} {v : Value} {qs : List QC} (h : StoryIn w base ib v qs) (hg : w.grownBy w' (some b)) (hb : b < base) (hb' : b < ib) : StoryIn w' base ib v qs :=
  ⟨own_row h.1 hg hb, fun q hq => ⟨own_row (h.2 q hq).1 hg hb', (h.2 q hq).2⟩⟩
theorem StoryIn.mono {w : World} {base ib base' ib' : Nat} {v : Value} {qs : List QC} (h : StoryIn w base' ib' v qs) (hb : base ≤ base') (hi : ib ≤ ib') : StoryIn w base ib v qs :=
  ⟨own_mono h.1 hb, fun q hq => ⟨own_mono (h.2 q hq).1 hi, (h.2 q hq).2⟩⟩
theorem TM_TC : TM ≠ TC := by decide
/-- behind an append of one claim -/
theorem StoryIn.push {w w' : World} {base ib : Nat} {v v' : Value} {qs : List QC} {q : QC} (h : StoryIn w base ib v qs)
    (hq : w.ownsRow ib TM 2 q.1 q.2.2.length (mcells q.2.2) ∧ I64s q.2.2 ∧ I64 q.2.1) (hown : w'.ownsRow base TC 2 v' (qs.length + 1) (ccells qs ++ ccells [q])) (hg : w.grownBy w' v.ownBlock) : StoryIn w' base ib v' (qs ++ [q]) := by
  refine ⟨by rw [ccells_append]; simpa using hown, fun r hr => ?_⟩
  rcases List.mem_append.1 hr with hr | hr
  · exact ⟨(h.2 r hr).1.kept hg (own_ne (h.2 r hr).1 h.1 TM_TC), (h.2 r hr).2⟩
  · simp at hr; subst hr
    exact ⟨hq.1.kept hg (own_ne hq.1 h.1 TM_TC), hq.2⟩
theorem StoryIn.nil (w : World) (base ib : Nat) : StoryIn w base ib (.slice none 0 0) [] := ⟨World.ownsRow_nil _ _ _ _, fun q hq => by simp at hq⟩
/-- the cells of one claim in a block just laid -/
theorem newsC (W : World) (g : Nat) (hg : g = W.heap.size) (k : Int) (u : Value) (c : List (Int × Int)) (T : TypeId) : ∀ (j : Nat) (u' : Value), (ccells [(u, (k, c))])[j]? = some u' → (W.alloc (.cells #[.int .i64 k, u] T)).cell? ((⟨g, 0, none⟩ : Addr).add j) = some u' := by
  subst hg
  exact World.news_of_block (cs := #[.int .i64 k, u]) (t := T) (fr := (0, 0)) (heap_alloc_new W _)
theorem Try.infoC : (Try.prog.info? TC).map (fun i => (i.zero, i.size, i.bytes)) = some (some (.agg #[.int .i64 0, .slice none 0 0]), 2, 32) := by kernel_rfl
/-! ### a variable of two cells -/
/-- block g holds a variable of two cells -/
def Box (w : World) (g : Nat) (a b : Value) : Prop := w.cell? ⟨g, 0, none⟩ = some a ∧ w.cell? ⟨g, 1, none⟩ = some b ∧ w.frozen? ⟨g, 0, none⟩ = false ∧ w.frozen? ⟨g, 1, none⟩ = false ∧ g < w.heap.size
theorem Box.new (w : World) (a b : Value) (T : TypeId) : ∃ w1 : World, w1 = w.alloc (.cells #[a, b] T) ∧ Box w1 w.heap.size a b ∧ Below w.heap.size w w1 ∧ w.heap.size < w1.heap.size := by
  have hh := heap_alloc_new w (.cells #[a, b] T)
  refine ⟨_, rfl, ⟨?_, ?_, frozen_of_row _ _ _ _ _ hh, frozen_of_row _ _ _ _ _ hh, by simp⟩, (Below.refl _ _).alloc (Nat.le_refl _) _, by simp⟩
  · have := cell_of_row (w.alloc (.cells #[a, b] T)) w.heap.size 0 _ T (0, 0) hh
    rw [this]; rfl
  · have := cell_of_row (w.alloc (.cells #[a, b] T)) w.heap.size 1 _ T (0, 0) hh
    rw [this]; rfl
theorem Box.kept {w w' : World} {g : Nat} {a b : Value} (h : Box w g a b) (hk : w'.heap[g]? = w.heap[g]?) (hs : g < w'.heap.size) : Box w' g a b :=
  ⟨(World.cell?_of_block (w := w) hk).trans h.1, (World.cell?_of_block (w := w) hk).trans h.2.1, (World.frozen?_of_block (w := w) hk).trans h.2.2.1, (World.frozen?_of_block (w := w) hk).trans h.2.2.2.1, hs⟩
theorem Box.below {w w' : World} {g : Nat} {a b : Value} (h : Box w g a b) (hb : Below w.heap.size w w') : Box w' g a b :=
  h.kept (hb.block g h.2.2.2.2) (by have := hb.size; have := h.2.2.2.2; omega)
theorem Box.grown {w w' : World} {g : Nat} {a b : Value} {row : Option Nat} (h : Box w g a b) (hg : w.grownBy w' row) (hne : row ≠ some g) : Box w' g a b :=
  h.kept (hg.block g h.2.2.2.2 (fun e => hne e.symm)) (by have := hg.size; have := h.2.2.2.2; omega)
theorem Box.alloc {w : World} {g : Nat} {a b : Value} (h : Box w g a b) (o : Obj) : Box (w.alloc o) g a b := h.kept (Below.heap_alloc w o g h.2.2.2.2) (by have := h.2.2.2.2; simp; omega)
theorem grown_set (w : World) (g j : Nat) (u : Value) : w.grownBy (w.setCell ⟨g, j, none⟩ u) (some g) :=
  ⟨rfl, rfl, rfl, by simp [World.setCell], fun k _ hne => Below.heap_setCell _ _ _ _ (by intro e; exact hne (by rw [e]))⟩
theorem grown_trans {a b c : World} {row : Option Nat} (h : a.grownBy b row) (k : b.grownBy c row) : a.grownBy c row :=
  ⟨k.os.trans h.os, k.tape.trans h.tape, k.output.trans h.output, Nat.le_trans h.size k.size, fun i hi hne => (k.block i (Nat.lt_of_lt_of_le hi h.size) hne).trans (h.block i hi hne)⟩
theorem Box.set0 {w : World} {g : Nat} {a b : Value} (h : Box w g a b) (a' : Value) : ∃ w', w' = w.setCell ⟨g, 0, none⟩ a' ∧ Box w' g a' b ∧ w.grownBy w' (some g) := by
  obtain ⟨h1, h2, h3, h4, h5⟩ := h
  refine ⟨_, rfl, ⟨by go_simp, by go_simp, by go_simp, by go_simp, by simpa [World.setCell] using h5⟩, grown_set _ _ _ _⟩
theorem Box.set1 {w : World} {g : Nat} {a b : Value} (h : Box w g a b) (b' : Value) : ∃ w', w' = w.setCell ⟨g, 1, none⟩ b' ∧ Box w' g a b' ∧ w.grownBy w' (some g) := by
  obtain ⟨h1, h2, h3, h4, h5⟩ := h
  refine ⟨_, rfl, ⟨by go_simp, by go_simp, by go_simp, by go_simp, by simpa [World.setCell] using h5⟩, grown_set _ _ _ _⟩
theorem Box.set {w : World} {g : Nat} {a b : Value} (h : Box w g a b) (a' b' : Value) : ∃ w', w' = (w.setCell ⟨g, 0, none⟩ a').setCell ⟨g, 1, none⟩ b' ∧ Box w' g a' b' ∧ w.grownBy w' (some g) := by
  obtain ⟨w1, e1, h1, g1⟩ := h.set0 a'
  obtain ⟨w2, e2, h2, g2⟩ := h1.set1 b'
  exact ⟨w2, by rw [e2, e1], h2, grown_trans g1 g2⟩
theorem own_len {w : World} {base n size : Nat} {e : TypeId} {v : Value} {xs : List Value} (h : w.ownsRow base e size v n xs) : ∃ ao cp, v = .slice ao n cp := by
  rcases h.2 with ⟨rfl, hn⟩ | ⟨g, cap, cur, rfl, _⟩
  · exact ⟨none, 0, by rw [hn]⟩
  · exact ⟨_, _, rfl⟩
end Go.Proofs.Ytobbbmcppmohoaa
