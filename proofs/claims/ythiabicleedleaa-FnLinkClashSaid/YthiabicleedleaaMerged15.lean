/- Texts of a proof, merged: OneG, OneS, OneT, LinkS, LinkT. -/
import Derived.Test.YthiabicleedleaaMerged14
import Derived.Test.YthiabicleedleaaMerged8
import Derived.Test.YthiabicleedleaaMerged13
import Derived.Test.YthiabicleedleaaMerged9
import Derived.Test.YthiabicleedleaaMerged4
import Derived.Deep.RegionHeld3
/- Writing into stories, and reading what was written: contracts of the exact laws' own functions. -/
namespace Go.Proofs.Ythiabicleedleaa
open Go.RowKit Go.Joins
theorem RdStory.kept5 {w w' : World} {v : Value} {qs : List QC} (h : RdStory w w.heap.size v qs) (hb : Below w.heap.size w w') : RdStory w' w'.heap.size v qs := (h.below hb.block).mono hb.size
/-- how many numbers are written into a story -/
def ctot : List QC → Nat
  | [] => 0
  | q :: r => 1 + q.2.2.length * 2 + ctot r
/-- a story with the numbers from k on written into it -/
def laidC : Nat → List QC → List QC
  | _, [] => []
  | k, q :: r => (q.1, ((k : Int), lay (k + 1) q.2.2.length)) :: laidC (k + 1 + q.2.2.length * 2) r
theorem laidC_length (us : List QC) : ∀ k, (laidC k us).length = us.length := by
  induction us with
  | nil => intro k; rfl
  | cons q r ih => intro k; simp [laidC, ih]
theorem laidC_fst (us : List QC) : ∀ k, (laidC k us).map (·.1) = us.map (·.1) := by
  induction us with
  | nil => intro k; rfl
  | cons q r ih => intro k; simp [laidC, ih]
theorem ctot_succ (us : List QC) : ∀ i, i < us.length → ctot (us.take (i + 1)) = ctot (us.take i) + 1 + (us.getD i qc0).2.2.length * 2 := by
  induction us with
  | nil => intro i hi; simp at hi
  | cons q r ih =>
    intro i hi
    cases i with
    | zero => simp [ctot]
    | succ i =>
      have := ih i (by simpa using hi)
      simp only [List.take_succ_cons, ctot, List.getD_cons_succ]
      omega
theorem ctot_take_le (us : List QC) : ∀ i, ctot (us.take i) ≤ ctot us := by
  induction us with
  | nil => intro i; simp
  | cons q r ih =>
    intro i
    cases i with
    | zero => simp [ctot]
    | succ i => have := ih i; simp only [List.take_succ_cons, ctot]; omega
theorem laidC_get (us : List QC) : ∀ k i, i < us.length → (laidC k us).getD i qc0 = ((us.getD i qc0).1, (((k + ctot (us.take i) : Nat) : Int), lay (k + ctot (us.take i) + 1) (us.getD i qc0).2.2.length)) := by
  induction us with
  | nil => intro k i hi; simp at hi
  | cons q r ih =>
    intro k i hi
    cases i with
    | zero => simp [laidC, ctot]
    | succ i =>
      have := ih (k + 1 + q.2.2.length * 2) i (by simpa using hi)
      simp only [laidC, List.getD_cons_succ, List.take_succ_cons, ctot]
      rw [this]
      have e : k + 1 + q.2.2.length * 2 + ctot (r.take i) = k + (1 + q.2.2.length * 2 + ctot (r.take i)) := by omega
      rw [e]
/-- the first i claims are written, the others are as they were -/
def mixC (k : Nat) (us : List QC) (i : Nat) : List QC := (laidC k us).take i ++ us.drop i
theorem mixC_zero (k : Nat) (us : List QC) : mixC k us 0 = us := by simp [mixC]
theorem mixC_all (k : Nat) (us : List QC) : mixC k us us.length = laidC k us := by
  unfold mixC
  rw [List.take_of_length_le (by rw [laidC_length]; exact Nat.le_refl _), List.drop_length, List.append_nil]
theorem mixC_at (k : Nat) (us : List QC) (i : Nat) (hi : i < us.length) : mixC k us i = (laidC k us).take i ++ us.getD i qc0 :: us.drop (i + 1) := by
  unfold mixC
  have e : us.getD i qc0 = us[i] := by simp [List.getD, hi]
  rw [e, ← List.drop_eq_getElem_cons hi]
theorem mixC_succ (k : Nat) (us : List QC) (i : Nat) (hi : i < us.length) : mixC k us (i + 1) = (laidC k us).take i ++ (laidC k us).getD i qc0 :: us.drop (i + 1) := by
  unfold mixC
  have hl : i < (laidC k us).length := by rw [laidC_length]; exact hi
  have e : (laidC k us).getD i qc0 = (laidC k us)[i] := by simp [List.getD, hl]
  rw [List.take_succ_eq_append_getElem hl, e, List.append_assoc]
  rfl
theorem mixC_fst (k : Nat) (us : List QC) (i : Nat) : (mixC k us i).map (·.1) = us.map (·.1) := by
  unfold mixC
  rw [List.map_append, List.map_take, laidC_fst, List.map_drop, List.take_append_drop]
theorem Apart.of_fst {us vs : List QC} (h : Apart us) (e : vs.map (·.1) = us.map (·.1)) : Apart vs := by
  unfold Apart at h ⊢
  have h1 : (us.map (·.1)).Pairwise fun a b => a.ownBlock = none ∨ a.ownBlock ≠ b.ownBlock := List.pairwise_map.2 h
  rw [← e] at h1
  exact List.pairwise_map.1 h1
theorem Apart.mid {A R : List QC} {q : QC} (h : Apart (A ++ q :: R)) : (∀ r ∈ A, r.1.ownBlock = none ∨ r.1.ownBlock ≠ q.1.ownBlock) ∧ ∀ r ∈ R, r.1.ownBlock = none ∨ r.1.ownBlock ≠ q.1.ownBlock := by
  obtain ⟨_, h2, h3⟩ := List.pairwise_append.1 h
  obtain ⟨h4, _⟩ := List.pairwise_cons.1 h2
  refine ⟨fun r hr => h3 r hr q (by simp), fun r hr => ?_⟩
  rcases h4 r hr with h | h
  · cases hb : r.1.ownBlock with
    | none => exact .inl rfl
    | some k => rw [h]; exact .inr (by simp)
  · exact .inr fun e => h e.symm
/-- nothing is changed but a story's own blocks -/
def OnlyIn (us : List QC) (v : Value) (w w' : World) : Prop :=
  w'.os = w.os ∧ w'.tape = w.tape ∧ w'.output = w.output ∧ w.heap.size ≤ w'.heap.size ∧ ∀ i, i < w.heap.size → some i ≠ v.ownBlock → (∀ q ∈ us, some i ≠ q.1.ownBlock) → w'.heap[i]? = w.heap[i]?
theorem mixC_length (k : Nat) (us : List QC) (i : Nat) : (mixC k us i).length = us.length := by
  have := congrArg List.length (mixC_fst k us i)
  simpa using this
theorem ccells_set1 (A R : List QC) (u : Value) (k k' : Int) (ms : List (Int × Int)) (j : Nat) (hj : A.length = j) :
    (ccells (A ++ (u, (k, ms)) :: R)).set (j * 2) (.int .i64 k') = ccells (A ++ (u, (k', ms)) :: R) := by
  subst hj
  have hl := ccells_length A
  rw [ccells_append, ccells_append, List.set_append_right _ _ (by omega), hl, Nat.sub_self]
  rfl
theorem ccells_marks (A R : List QC) (u : Value) (k : Int) (ms ms' : List (Int × Int)) : ccells (A ++ (u, (k, ms)) :: R) = ccells (A ++ (u, (k, ms')) :: R) := by
  rw [ccells_append, ccells_append]; rfl
theorem OnlyIn.below {us : List QC} {v : Value} {w w' : World} {B : Nat} (h : OnlyIn us v w w') (hv : ∀ k, v.ownBlock = some k → B ≤ k) (hq : ∀ q ∈ us, ∀ k, q.1.ownBlock = some k → B ≤ k) (hB : B ≤ w.heap.size := by omega) : Below B w w' :=
  ⟨h.1, h.2.1, h.2.2.1, h.2.2.2.1, fun i hi => h.2.2.2.2 i (by omega) (fun e => by have := hv i e.symm; omega) (fun q hm e => by have := hq q hm i e.symm; omega)⟩
theorem own_only {us : List QC} {vv v : Value} {w w' : World} {base n size : Nat} {e : TypeId} {xs : List Value} (h : w.ownsRow base e size v n xs) (ho : OnlyIn us vv w w') (hv : ∀ k, v.ownBlock = some k → some k ≠ vv.ownBlock) (hq : ∀ k, v.ownBlock = some k → ∀ q ∈ us, some k ≠ q.1.ownBlock) : w'.ownsRow base e size v n xs := by
  refine ⟨h.1, ?_⟩
  rcases h.2 with h2 | ⟨g, cap, cur, rfl, hb, hg, h3⟩
  · exact .inl h2
  · refine .inr ⟨g, cap, cur, rfl, hb, ?_, h3⟩
    rw [← hg]
    exact ho.2.2.2.2 g (Array.getElem?_eq_some_iff.1 hg).1 (hv g rfl) (hq g rfl)
/-- a story's blocks lie between its base and the heap's end -/
theorem StoryIn.inside {w : World} {b : Nat} {v : Value} {us : List QC} (h : StoryIn w b b v us) : (∀ k, v.ownBlock = some k → b ≤ k ∧ k < w.heap.size) ∧ ∀ q ∈ us, ∀ k, q.1.ownBlock = some k → b ≤ k ∧ k < w.heap.size :=
  ⟨fun k hk => h.1.lt k hk, fun q hq k hk => (h.2 q hq).1.lt k hk⟩
theorem ctot_bound (us : List QC) (hl : us.length ≤ 1048576) (hm : ∀ q ∈ us, q.2.2.length ≤ 1048576) : ctot us ≤ 4000000000000 := by
  have h : ∀ l : List QC, (∀ q ∈ l, q.2.2.length ≤ 1048576) → ctot l ≤ l.length * 2097153 := fun l => by
    induction l with
    | nil => intro _; simp [ctot]
    | cons q r ih =>
      intro h
      have h1 := ih (fun q hq => h q (by simp [hq]))
      have h2 := h q (by simp)
      simp only [ctot, List.length_cons]
      omega
  have := h us hm
  have h2 : us.length * 2097153 ≤ 1048576 * 2097153 := Nat.mul_le_mul_right _ hl
  omega
theorem story_bound {us zs : List QC} (he : us.map (·.2) = zs.map (·.2)) (hl : zs.length ≤ 1048576) (hm : ∀ j, j < zs.length → (zs.getD j qc0).2.2.length ≤ 1048576) : us.length ≤ 1048576 ∧ ∀ q ∈ us, q.2.2.length ≤ 1048576 := by
  have hlen := congrArg List.length he
  simp at hlen
  refine ⟨by omega, fun q hq => ?_⟩
  have h1 : q.2 ∈ us.map (·.2) := List.mem_map.2 ⟨q, hq, rfl⟩
  rw [he] at h1
  obtain ⟨z, hz, e⟩ := List.mem_map.1 h1
  obtain ⟨j, hj, ez⟩ := List.getElem_of_mem hz
  have := hm j hj
  rw [show zs.getD j qc0 = z by simp [List.getD, hj, ez]] at this
  rw [← e]; exact this
theorem OnlyIn.refl (us : List QC) (v : Value) (w : World) : OnlyIn us v w w := ⟨rfl, rfl, rfl, Nat.le_refl _, fun _ _ _ _ => rfl⟩
theorem OnlyIn.row {us : List QC} {v : Value} {w w1 w2 : World} {row : Option Nat} (h : OnlyIn us v w w1) (hg : w1.grownBy w2 row) (hr : row = none ∨ row = v.ownBlock ∨ ∃ q ∈ us, row = q.1.ownBlock) : OnlyIn us v w w2 := by
  obtain ⟨h1, h2, h3, h4, h5⟩ := h
  refine ⟨hg.os.trans h1, hg.tape.trans h2, hg.output.trans h3, Nat.le_trans h4 hg.size, fun i hi hv hq => ?_⟩
  rw [← h5 i hi hv hq]
  refine hg.block i (by omega) ?_
  rcases hr with h | h | ⟨q, hm, h⟩
  · rw [h]; simp
  · rw [h]; exact fun e => hv e
  · rw [h]; exact fun e => hq q hm e
/-- one claim more is written -/
theorem mark_step {w wr : World} {base ib g cap : Nat} {us : List QC} {k0 j K : Nat} (hj : j < us.length) (hK : K = k0 + ctot (us.take j)) (hk0 : k0 + ctot us ≤ 4611686018427387904) (hap : Apart us)
    (hst : StoryIn wr base ib (.slice (some ⟨g, 0, none⟩) us.length cap) (mixC k0 us j)) (ho : OnlyIn us (.slice (some ⟨g, 0, none⟩) us.length cap) w wr) :
    (wr.setCell ⟨g, j * 2, none⟩ (.int .i64 K)).ownsRow ib TM 2 (us.getD j qc0).1 (us.getD j qc0).2.2.length (mcells (us.getD j qc0).2.2) ∧
    wr.cell? ⟨g, j * 2 + 1, none⟩ = some (us.getD j qc0).1 ∧ wr.cell? ⟨g, j * 2, none⟩ = some (.int .i64 (us.getD j qc0).2.1) ∧ wr.frozen? ⟨g, j * 2, none⟩ = false ∧
    ∀ w2 : World, w2.ownsRow ib TM 2 (us.getD j qc0).1 (us.getD j qc0).2.2.length (mcells (lay (K + 1) (us.getD j qc0).2.2.length)) → (wr.setCell ⟨g, j * 2, none⟩ (.int .i64 K)).grownBy w2 (us.getD j qc0).1.ownBlock →
      StoryIn w2 base ib (.slice (some ⟨g, 0, none⟩) us.length cap) (mixC k0 us (j + 1)) ∧ OnlyIn us (.slice (some ⟨g, 0, none⟩) us.length cap) w w2 := by
  have hA : ((laidC k0 us).take j).length = j := by rw [List.length_take, laidC_length]; omega
  have hlg := laidC_get us k0 j hj
  rw [← hK] at hlg
  have e0 := mixC_at k0 us j hj
  have e1 := mixC_succ k0 us j hj
  have hlen := mixC_length k0 us j
  have hlen1 := mixC_length k0 us (j + 1)
  have hap0 := hap.of_fst (mixC_fst k0 us j)
  have hctl := ctot_take_le us (j + 1)
  have hcs := ctot_succ us j hj
  have hmem : us.getD j qc0 ∈ us := by
    have e : us.getD j qc0 = us[j] := by simp [List.getD, hj]
    rw [e]; exact List.getElem_mem hj
  have hfst : (us.getD j qc0).1.ownBlock = none ∨ ∃ q ∈ us, (us.getD j qc0).1.ownBlock = q.1.ownBlock := .inr ⟨_, hmem, rfl⟩
  rw [e0] at hap0
  obtain ⟨hown, hin⟩ := hst
  rw [hlen] at hown
  rw [e0] at hown hin
  rw [hlg] at e1
  have hqj := (hin (us.getD j qc0) (by simp)).1
  have hcell := hown.cellAt (j * 2) (by omega)
  have hcell1 := hown.cellAt (j * 2 + 1) (by omega)
  have hfz := hown.frozenAt (j * 2)
  have hget := ccells_get (mixC k0 us j) j (by rw [hlen]; exact hj)
  have hgd : (mixC k0 us j).getD j qc0 = us.getD j qc0 := by
    rw [e0, List.getD_eq_getElem?_getD, List.getElem?_append_right (by omega), hA, Nat.sub_self]
    rfl
  rw [hgd, e0] at hget
  rw [hget.1] at hcell
  rw [hget.2] at hcell1
  have hs := hown.stored (j * 2) (.int .i64 K)
  generalize us.getD j qc0 = q at *
  obtain ⟨u, k, ms⟩ := q
  dsimp only at hqj hcell hcell1 hfst e1 ⊢
  rw [ccells_set1 _ _ _ _ _ _ j hA] at hs
  obtain ⟨hs1, hs2⟩ := hs
  have hk1 : ∀ {x : Value} {zs : List (Int × Int)}, wr.ownsRow ib TM 2 x zs.length (mcells zs) → (wr.setCell ⟨g, j * 2, none⟩ (.int .i64 K)).ownsRow ib TM 2 x zs.length (mcells zs) := fun h => h.kept hs2 (own_ne h hown TM_TC)
  have hu1 := hk1 hqj
  refine ⟨hu1, hcell1, hcell, hfz, fun w2 hu2 hg2 => ?_⟩
  obtain ⟨hmA, hmR⟩ := hap0.mid
  refine ⟨⟨?_, ?_⟩, (ho.row hs2 (.inr (.inl rfl))).row hg2 (hfst.elim .inl (fun h => .inr (.inr h)))⟩
  · rw [hlen1, e1, ccells_marks _ _ _ _ (lay (K + 1) ms.length) ms]
    exact hs1.kept hg2 (own_ne hs1 hu1 (fun e => TM_TC e.symm))
  · intro r hr
    rw [e1] at hr
    simp only [List.mem_append, List.mem_cons] at hr
    rcases hr with hr | rfl | hr
    · have := hin r (by simp [hr])
      exact ⟨(hk1 this.1).kept hg2 (hmA r hr), this.2⟩
    · dsimp only at hcs ⊢
      rw [lay_length]
      exact ⟨hu2, lay_I64 (by omega), by unfold I64; omega⟩
    · have := hin r (by simp [hr])
      exact ⟨(hk1 this.1).kept hg2 (hmR r hr), this.2⟩
end Go.Proofs.Ythiabicleedleaa
/- Contracts of the reference's stories with one answer: clashes, only worlds, known people. -/
namespace Go.Proofs.Ythiabicleedleaa
open Go.RowKit Go.Joins
attribute [local irreducible] holds tabN tabV holdsV sameV followsV alwaysV matterV claimOk mayT mayV ctabV ctabN storyV storyOk storyN storyT ctermV ctermL clashV onlyOk onlyN knownF knownL knownK cntK swl needB needF needL leastR leastV
end Go.Proofs.Ythiabicleedleaa
/- Contracts of the reference's stories with one answer: needless claims. -/
namespace Go.Proofs.Ythiabicleedleaa
open Go.RowKit Go.Joins
attribute [local irreducible] holds tabN tabV holdsV sameV followsV alwaysV matterV claimOk mayT mayV ctabV ctabN storyV storyOk storyN storyT ctermV ctermL clashV onlyOk onlyN knownF knownL knownK cntK swl needL leastR leastV ccells
theorem RdStory.cells_at {w w' : World} {B b off n cap : Nat} {qs : List QC} (h : RdStory w B (.slice (some ⟨b, off, none⟩) n cap) qs) (hb : ∀ k, k < B → w'.heap[k]? = w.heap[k]?) : ∀ (j : Nat) (u : Value), (ccells qs)[j]? = some u → w'.cell? ((⟨b, off, none⟩ : Addr).add j) = some u := (h.below hb).cells
end Go.Proofs.Ythiabicleedleaa
/- Contracts of the reference's links: whether they are some, their story, their groups, their worlds. -/
namespace Go.Proofs.Ythiabicleedleaa
open Go.RowKit Go.Joins
theorem links_all {p : Int} {ls : List Lk} (h : ∀ j, j < ls.length → linkOk1 p (ls.getD j lk0) = true) : linksOk p ls = (decide (1 ≤ p ∧ p ≤ 4) && decide (ls.length ≤ 6)) := by
  unfold linksOk pOk
  have e : ls.all (linkOk1 p) = true := by
    rw [List.all_eq_true]
    intro l hl
    obtain ⟨j, hj, rfl⟩ := List.mem_iff_getElem.1 hl
    have := h j hj
    rwa [show ls.getD j lk0 = ls[j] by simp [List.getD, hj]] at this
  rw [e, Bool.true_and]
theorem links_bad {p : Int} {ls : List Lk} {j : Nat} (hj : j < ls.length) (h : linkOk1 p (ls.getD j lk0) = false) : linksOk p ls = false := by
  cases hk : linksOk p ls with
  | false => rfl
  | true =>
    have e : ls.getD j lk0 = ls[j] := by simp [List.getD, hj]
    have := (linksOk_iff.1 hk).1 _ (List.getElem_mem hj)
    unfold linkOk1 at h
    rw [e, decide_eq_false_iff_not] at h
    exact absurd this h
theorem link1_iff {p : Int} {l : Lk} : linkOk1 p l = true ↔ 0 ≤ l.1 ∧ l.1 < p ∧ 0 ≤ l.2.1 ∧ l.2.1 < p := by simp [linkOk1]
attribute [local irreducible] holds tabN tabV holdsV sameV followsV alwaysV matterV claimOk mayT mayV ctabV ctabN storyV storyOk storyN storyT ctermV ctermL kindOk kindV linksOk linkOk1 linkC linkS mergeR grpF lcells
set_option maxRecDepth 100000 in
set_option maxHeartbeats 4000000 in
theorem specLinksOk (p : Int) (ls : List Lk) (B : Nat) (v : Value) (w : World) (hr : RdLinks w B v ls) :
    Calls Try.prog 21 #[.int .i64 p, v] w fun e w' => e = .returned (.bool (linksOk p ls)) ∧ w = w' := by
  obtain ⟨ao, cap, rfl, hl, hm, _, hc0⟩ := hr
  have hc := Lib.hid hc0; clear hc0
  unfold maxLen at hm
  have Hall := Lib.hid (fun h => links_all (p := p) (ls := ls) h)
  go_enter Try.func21, Try.ntmps21
  go_wp2
  go_loop [5] (fun i => ∃ k : Nat, k ≤ ls.length ∧ i = .int .i64 k ∧ Hid (∀ j, j < k → linkOk1 p (ls.getD j lk0) = true)) (fun i => ls.length - (intOf i).toNat)
  case atStart => exact ⟨0, Nat.zero_le _, rfl, fun j hj => by omega⟩
  case round =>
    obtain ⟨k, hk, rfl, hall⟩ := hrel
    by_cases hlt : k < ls.length
    · obtain ⟨b, off, rfl, hb, hc1, hc2, hc3⟩ := hc.out k hlt
      cases hw : linkOk1 p (ls.getD k lk0) with
      | true =>
        have Hall2 : Hid (∀ j, j < k + 1 → linkOk1 p (ls.getD j lk0) = true) := fun j hj => by
          by_cases hjk : j < k
          · exact hall.out j hjk
          · obtain rfl : j = k := by omega
            exact hw
        obtain ⟨h1, h2, h3, h4⟩ := link1_iff.1 hw
        clear hw
        generalize ls.getD k lk0 = l at *
        obtain ⟨la, lb, lt⟩ := l
        dsimp only at hc1 hc2 hc3 h1 h2 h3 h4
        go_wp2
        go_round
        case rel => exact ⟨k + 1, by omega, by go_num, Hall2⟩
        case measure => simp [intOf]; omega
      | false =>
        have Hbad := Lib.hid (links_bad hlt hw)
        have hno : ¬ _ := fun h => by rw [link1_iff.2 h] at hw; cases hw
        clear hw
        generalize ls.getD k lk0 = l at *
        obtain ⟨la, lb, lt⟩ := l
        dsimp only at hc1 hc2 hc3 hno
        by_cases h1 : la < 0
        · clear hno
          go_wp2
          go_ret
          exact ⟨by rw [Hbad.out]; rfl, rfl⟩
        by_cases h2 : p ≤ la
        · clear hno
          go_wp2
          go_ret
          exact ⟨by rw [Hbad.out]; rfl, rfl⟩
        by_cases h3 : lb < 0
        · clear hno
          have h2' : la < p := by omega
          go_wp2
          go_ret
          exact ⟨by rw [Hbad.out]; rfl, rfl⟩
        · have h4 : p ≤ lb := by omega
          have h2' : la < p := by omega
          clear hno
          go_wp2
          go_ret
          exact ⟨by rw [Hbad.out]; rfl, rfl⟩
    · obtain rfl : k = ls.length := by omega
      have hv := Hall.out hall.out
      cases hp : decide (1 ≤ p ∧ p ≤ 4) with
      | false =>
        rw [hp] at hv
        have Hv := Lib.hid hv
        have Hp := Lib.hid hp.symm; clear hv hp
        go_wp2_with fail
        refine (specL1In _ _ _ false Hp _).mono ?_
        rintro e w' ⟨rfl, rfl⟩
        go_wp2
        go_ret
        exact ⟨by rw [Hv.out]; rfl, rfl⟩
      | true =>
        rw [hp, Bool.true_and] at hv
        have Hv := Lib.hid hv
        have Hp := Lib.hid hp.symm; clear hv hp
        go_wp2_with fail
        refine (specL1In _ _ _ true Hp _).mono ?_
        rintro e w' ⟨rfl, rfl⟩
        go_wp2
        go_ret
        refine ⟨ret_bool ?_, rfl⟩
        rw [Hv.out, decide_eq_decide]
        omega
theorem grp_take (P : Nat) (ls : List Lk) (k : Nat) (hk : k < ls.length) : grpF P (ls.take (k + 1)) = mergeR (grpF P (ls.take k)) (ls.getD k lk0).1.toNat (ls.getD k lk0).2.1.toNat := by
  rw [List.take_succ_eq_append_getElem hk, grp_snoc]
  simp [List.getD, hk]
/-- what a row is changed to, of its first places -/
def mixR (r : List Nat) (M m j : Nat) : List Nat := (r.take j).map (fun z => if z = M then m else z) ++ r.drop j
theorem mixR_len (r : List Nat) (M m j : Nat) : (mixR r M m j).length = r.length := by simp [mixR]; omega
theorem mixR_zero (r : List Nat) (M m : Nat) : mixR r M m 0 = r := by simp [mixR]
theorem mixR_all (r : List Nat) (i j : Nat) : mixR r (max (r.getD i 0) (r.getD j 0)) (min (r.getD i 0) (r.getD j 0)) r.length = mergeR r i j := by
  unfold mixR mergeR
  simp
theorem mixR_cons (r : List Nat) (M m j : Nat) (hj : j < r.length) : mixR r M m j = (r.take j).map (fun z => if z = M then m else z) ++ r.getD j 0 :: r.drop (j + 1) := by
  have e : r.getD j 0 = r[j] := by simp [List.getD, hj]
  unfold mixR
  rw [List.drop_eq_getElem_cons hj, e]
theorem mixR_step (r : List Nat) (M m j : Nat) (hj : j < r.length) : mixR r M m (j + 1) = (r.take j).map (fun z => if z = M then m else z) ++ (if r.getD j 0 = M then m else r.getD j 0) :: r.drop (j + 1) := by
  have e : r.getD j 0 = r[j] := by simp [List.getD, hj]
  unfold mixR
  rw [List.take_succ_eq_append_getElem hj, List.map_append, List.append_assoc, e]
  rfl
theorem map_take_len (r : List Nat) (f : Nat → Nat) (j : Nat) (hj : j < r.length) : ((r.take j).map f).length = j := by
  rw [List.length_map, List.length_take]; omega
theorem mixR_at (r : List Nat) (M m j : Nat) (hj : j < r.length) : (mixR r M m j)[j]? = some (r.getD j 0) := by
  rw [mixR_cons r M m j hj, List.getElem?_append_right (by rw [map_take_len r _ j hj]; exact Nat.le_refl _), map_take_len r _ j hj, Nat.sub_self]
  rfl
theorem mixR_yes (r : List Nat) (M m j : Nat) (hj : j < r.length) (h : r.getD j 0 = M) : (mixR r M m j).set j m = mixR r M m (j + 1) := by
  rw [mixR_cons r M m j hj, mixR_step r M m j hj, if_pos h, List.set_append_right _ _ (by rw [map_take_len r _ j hj]; exact Nat.le_refl _), map_take_len r _ j hj, Nat.sub_self]
  rfl
theorem mixR_no (r : List Nat) (M m j : Nat) (hj : j < r.length) (h : r.getD j 0 ≠ M) : mixR r M m j = mixR r M m (j + 1) := by
  rw [mixR_cons r M m j hj, mixR_step r M m j hj, if_neg h]
theorem vals_at (l : List Nat) (k : Nat) (h : k < l.length) : (vals l)[k]? = some (.int .i64 (l.getD k 0 : Int)) := by
  simp [vals, List.getD, h]
theorem vals_set (l : List Nat) (k z : Nat) : (vals l).set k (.int .i64 (z : Int)) = vals (l.set k z) := by simp [vals, List.map_set]
theorem grp_small {P : Nat} {ls : List Lk} (h : inL P ls) (k : Nat) : (grpF P ls).getD k 0 ≤ k := by
  obtain ⟨a, b, _⟩ := grp_inv h
  by_cases hk : k < P
  · exact (b k (by omega)).1
  · simp [List.getD, show ¬ k < (grpF P ls).length by omega]
set_option maxRecDepth 100000 in
set_option maxHeartbeats 8000000 in
theorem specLinkGroups (p : Int) (ls : List Lk) (B : Nat) (v : Value) (w : World) (hr : RdLinks w B v ls) (hB : B ≤ w.heap.size) :
    Calls Try.prog 30 #[.int .i64 p, v] w fun e w' => ∃ u, e = .returned u ∧ w'.ownsRow w.heap.size 3 1 u (grpL p ls).length (vals (grpL p ls)) ∧ Below w.heap.size w w' := by
  obtain ⟨i0, hi, hz0, hz1, hz2⟩ := info_parts Try.info3
  have Hi := Lib.hid hi; clear hi
  have Hz0 := Lib.hid hz0; clear hz0
  have Hz1 := Lib.hid hz1; clear hz1
  have Hz2 := Lib.hid hz2; clear hz2
  obtain ⟨wo, rfl⟩ : ∃ wo : World, wo = w := ⟨_, rfl⟩
  have hown0 : (wo.alloc (.cells #[] 3)).ownsRow wo.heap.size 3 1 (.slice (some ⟨wo.heap.size, 0, none⟩) 0 0) 0 (vals []) := World.ownsRow_made _ _ 0 (Nat.le_refl _) (Nat.zero_le _) rfl
  have hb0 : Below wo.heap.size wo (wo.alloc (.cells #[] 3)) := (Below.refl _ _).alloc (Nat.le_refl _) _
  have hso := fun w h => specLinksOk p ls B v w h
  have Hr0 := Lib.hid (hr.below (w' := wo.alloc (.cells #[] 3)) (fun q hq => hb0.block q (by omega)))
  obtain ⟨lo, lc, rfl, hll, hlm⟩ : ∃ lo lc, v = .slice lo ls.length lc ∧ ls.length ≤ lc ∧ lc ≤ maxLen := by
    obtain ⟨a, c, h1, h2, h3, _⟩ := hr; exact ⟨a, c, h1, h2, h3⟩
  unfold maxLen at hlm
  cases hok : linksOk p ls with
  | false =>
    have Hf : Hid (grpL p ls = []) := by unfold Hid grpL; rw [hok]; rfl
    rw [hok] at hso
    have Hso := Lib.hid hso
    have Hown0 := Lib.hid hown0
    have Hb0 := Lib.hid hb0
    clear hso hok hr hown0 hb0
    go_enter Try.func30, Try.ntmps30
    go_wp2_with fail
    refine (Hso.out _ Hr0.out).mono ?_
    rintro e w' ⟨rfl, rfl⟩
    go_wp2
    go_ret
    exact ⟨_, rfl, by rw [Hf.out]; exact Hown0.out, Hb0.out⟩
  | true =>
    obtain ⟨hmem, h1, h4, h6⟩ := linksOk_iff.1 hok
    have hin := inL_of hok
    obtain ⟨P, rfl⟩ := Int.eq_ofNat_of_zero_le (show 0 ≤ p by omega)
    rw [Int.toNat_natCast] at hin
    have Hf : Hid (grpL (P : Int) ls = grpF P ls) := by unfold Hid grpL; rw [hok]; rfl
    have Hin := Lib.hid hin
    have Hmem := Lib.hid hmem
    have Hlen : Hid ((grpF P ls).length = P) := (grp_inv hin).1
    have Hstart : Hid (grpF P (ls.take 0) = List.range P) := by unfold Hid grpF; rw [List.take_zero]; rfl
    have Hend : Hid (ls.take ls.length = ls) := List.take_length
    have Hstep := Lib.hid (fun k hk => grp_take P ls k hk)
    have Hlk : Hid (∀ k, (grpF P (ls.take k)).length = P ∧ ∀ j, (grpF P (ls.take k)).getD j 0 ≤ j) := fun k => by
      have hk : inL P (ls.take k) := fun l hl => hin l (List.mem_of_mem_take hl)
      exact ⟨(grp_inv hk).1, grp_small hk⟩
    rw [hok] at hso
    have Hso := Lib.hid hso
    have Hown0 := Lib.hid hown0
    have Hb0 := Lib.hid hb0
    have Hr := Lib.hid hr
    clear hso hok hr hown0 hb0 hin hmem h1
    have hP4 : P ≤ 4 := by omega
    clear h4
    go_enter Try.func30, Try.ntmps30
    go_wp2_with fail
    refine (Hso.out _ Hr0.out).mono ?_
    rintro e w' ⟨rfl, rfl⟩
    go_wp2
    go_loopw [5, 6] (fun u i wr => ∃ (k g cap : Nat), k ≤ P ∧ i = .int .i64 k ∧ u = .slice (some ⟨g, 0, none⟩) k cap ∧ wr.ownsRow wo.heap.size 3 1 u k (vals (List.range k)) ∧ Below wo.heap.size wo wr) (fun _ i _ => P - (intOf i).toNat)
    case atStart => exact ⟨0, _, _, Nat.zero_le _, rfl, rfl, Hown0.out, Hb0.out⟩
    case round =>
      obtain ⟨k, g, cap, hk, rfl, rfl, hown, hbel⟩ := hrel
      by_cases hlt : k < P
      · have Hs : Hid (vals (List.range (k + 1)) = vals (List.range k) ++ [.int .i64 (k : Int)]) := by
          unfold Hid; rw [List.range_succ]; simp [vals]
        have hbs := hbel.size
        go_wp2_with (first
          | (at_builtin; refine wpList_append_own _ rfl _ _ 39 rfl wo.heap.size 3 i0 (.int .i64 0) 1 8 Try.underlying39 Hi.out Hz0.out Hz1.out Hz2.out rfl (by decide) _ _ _ rfl (hown.alloc _) ⟨wr.heap.size, 0, none⟩ 1 1 [.int .i64 (k : Int)] rfl rfl (news1 _ _ rfl _ _) (by simp [Value.oneCell']) (by unfold maxLen; omega) (by omega) (by simp; omega) ?_
             go_must (intro v6 w6 hown6 hgr6 _
                      obtain ⟨g6, c6, rfl⟩ := ownsRow_form hown6 (by omega)
                      have hb6 : Below wo.heap.size wo w6 := (hbel.alloc hbel.size _).grown hgr6 (by simp; omega) (fun k hk => (hown.lt k hk).1)
                      have Hb6 := Lib.hid hb6
                      have Hown6 := Lib.hid hown6
                      clear hb6 hown6 hgr6))
          | fail)
        go_roundw
        case rel => exact ⟨k + 1, g6, c6, by omega, by go_num, rfl, by rw [Hs.out]; exact Hown6.out, Hb6.out⟩
        case measure => simp [intOf]; omega
      · obtain rfl : k = P := by omega
        have hgs := hown.lt g rfl
        have hcp := own_cap hown
        unfold maxLen at hcp
        have Hst : Hid (wr.ownsRow wo.heap.size 3 1 (.slice (some ⟨g, 0, none⟩) k cap) k (vals (grpF k (ls.take 0)))) := by unfold Hid; rw [Hstart.out]; exact hown
        have Hbel := Lib.hid hbel
        clear hown hbel
        go_wp2
        go_loopw [7, 8, 9, 10] (fun i _ _ _ ws => ∃ y : Nat, y ≤ ls.length ∧ i = .int .i64 y ∧ ws.ownsRow wo.heap.size 3 1 (.slice (some ⟨g, 0, none⟩) k cap) k (vals (grpF k (ls.take y))) ∧ Below wo.heap.size wo ws) (fun i _ _ _ _ => ls.length - (intOf i).toNat)
        case atStart => exact ⟨0, Nat.zero_le _, rfl, Hst.out, Hbel.out⟩
        case round =>
          clear Hst Hbel
          obtain ⟨y, hy, rfl, hown, hbel⟩ := hrel
          by_cases hyl : y < ls.length
          · have Hrs := Lib.hid (Hr.out.below (w' := wr) (fun q hq => hbel.block q (by omega)))
            obtain ⟨ao', cap', hv', _, _, _, hc0⟩ := Hrs.out
            obtain ⟨b, off, hao, hb, hc1, hc2, _⟩ := hc0 y hyl
            injection hv' with hv1 hv2 hv3
            subst hv1 hv3
            subst hao
            have hst := Hstep.out y hyl
            have hm := Hmem.out (ls.getD y lk0) (by rw [show ls.getD y lk0 = ls[y] by simp [List.getD, hyl]]; exact List.getElem_mem hyl)
            obtain ⟨hlen, hsm⟩ := Hlk.out y
            clear hc0 hv2
            generalize ls.getD y lk0 = l at *
            obtain ⟨la, lb, lt⟩ := l
            dsimp only at hc1 hc2 hst hm
            obtain ⟨a, rfl⟩ := Int.eq_ofNat_of_zero_le hm.1
            obtain ⟨c, rfl⟩ := Int.eq_ofNat_of_zero_le hm.2.2.1
            rw [Int.toNat_natCast, Int.toNat_natCast] at hst
            have hak : a < k := by omega
            have hck : c < k := by omega
            generalize grpF k (ls.take y) = r at *
            have hga := hown.cellAt a (by omega)
            rw [vals_at r a (by omega)] at hga
            have hgc := hown.cellAt c (by omega)
            rw [vals_at r c (by omega)] at hgc
            have hra := hsm a
            have hrc := hsm c
            have Hall := Lib.hid (mixR_all r a c)
            rw [hlen] at Hall
            have Hst := Lib.hid hst
            have Hlen2 := Lib.hid hlen
            have Hsm := Lib.hid hsm
            have Hown : Hid (wr.ownsRow wo.heap.size 3 1 (.slice (some ⟨g, 0, none⟩) k cap) k (vals (mixR r (max (r.getD a 0) (r.getD c 0)) (min (r.getD a 0) (r.getD c 0)) 0))) := by unfold Hid; rw [mixR_zero]; exact hown
            have Hbel := Lib.hid hbel
            clear hst hsm hown hbel hm
            generalize r.getD a 0 = A at *
            generalize r.getD c 0 = C at *
            have hmax : IntKind.i64.wrap (max (A : Int) (C : Int)) = ((max A C : Nat) : Int) := by rw [IntWalk.i64_in _ (by omega)]; omega
            have hAC : max (A : Int) (C : Int) = ((max A C : Nat) : Int) := by omega
            have hAm : min (A : Int) (C : Int) = ((min A C : Nat) : Int) := by omega
            have hMM : max A C ≤ 10 := by omega
            have hmm : min A C ≤ 10 := by omega
            go_wp2
            generalize hM : max A C = M at *
            generalize hm' : min A C = m at *
            have Hite : Hid ((if C < A then (C : Int) else (A : Int)) = (m : Int)) := by unfold Hid; split <;> omega
            go_loopw [10] (fun i wt => ∃ j : Nat, j ≤ k ∧ i = .int .i64 j ∧ wt.ownsRow wo.heap.size 3 1 (.slice (some ⟨g, 0, none⟩) k cap) k (vals (mixR r M m j)) ∧ Below wo.heap.size wo wt) (fun i _ => k - (intOf i).toNat)
            case atStart => exact ⟨0, Nat.zero_le _, rfl, Hown.out, Hbel.out⟩
            case round =>
              clear Hown Hbel
              obtain ⟨j, hj, rfl, hown, hbel⟩ := hrel
              by_cases hjk : j < k
              · have hlm : (mixR r M m j).length = k := by rw [mixR_len]; exact Hlen2.out
                have hgj := hown.cellAt j (by omega)
                rw [show (vals (mixR r M m j))[j]? = some (.int .i64 (r.getD j 0 : Int)) by unfold vals; rw [List.getElem?_map, mixR_at r M m j (by rw [Hlen2.out]; exact hjk)]; rfl] at hgj
                have hrj := Hsm.out j
                by_cases he : r.getD j 0 = M
                · have Hy := Lib.hid (mixR_yes r M m j (by rw [Hlen2.out]; exact hjk) he)
                  rw [he] at hgj
                  have hf := hown.frozenAt j
                  have hst := hown.stored j (.int .i64 (m : Int))
                  have hs1 := hst.1
                  rw [vals_set, Hy.out] at hs1
                  have Hs1 := Lib.hid hs1
                  have Hb1 : Hid (Below wo.heap.size wo (wr.setCell ⟨g, j, none⟩ (.int .i64 (m : Int)))) := hbel.setCell (by show wo.heap.size ≤ g; omega) _
                  clear hst hs1 hown hbel hlm
                  go_wp2
                  go_roundw
                  case rel => exact ⟨j + 1, by omega, by go_num, by rw [Hite.out]; exact Hs1.out, by rw [Hite.out]; exact Hb1.out⟩
                  case measure => simp [intOf]; omega
                · have Hno := Lib.hid (mixR_no r M m j (by rw [Hlen2.out]; exact hjk) he)
                  have hne : (((r.getD j 0 : Nat) : Int) == (M : Int)) = false := by rw [beq_eq_false_iff_ne]; omega
                  have Hown := Lib.hid hown
                  have Hbel := Lib.hid hbel
                  clear hown hbel hlm he
                  generalize r.getD j 0 = z at *
                  go_wp2
                  go_roundw
                  case rel => exact ⟨j + 1, by omega, by go_num, by rw [← Hno.out]; exact Hown.out, Hbel.out⟩
                  case measure => simp [intOf]; omega
              · obtain rfl : j = k := by omega
                have Hown : Hid (wr.ownsRow wo.heap.size 3 1 (.slice (some ⟨g, 0, none⟩) j cap) j (vals (grpF j (ls.take (y + 1))))) := by unfold Hid; rw [Hst.out, ← Hall.out]; exact hown
                have Hbel := Lib.hid hbel
                clear hown hbel
                go_wp2
                go_roundw
                case rel => exact ⟨y + 1, by omega, by go_num, Hown.out, Hbel.out⟩
                case measure => simp [intOf]; omega
          · obtain rfl : y = ls.length := by omega
            have Hown := Lib.hid hown
            have Hbel := Lib.hid hbel
            clear hown hbel
            go_wp2
            go_ret
            refine ⟨_, rfl, ?_, Hbel.out⟩
            have h := Hown.out
            rw [Hend.out] at h
            rw [Hf.out, Hlen.out]
            exact h
end Go.Proofs.Ythiabicleedleaa
/- Contracts of the reference's links: their story, and its worlds. -/
namespace Go.Proofs.Ythiabicleedleaa
open Go.RowKit Go.Joins
theorem Try.infoC12 : (Try.prog.info? TC).map (fun i => (i.zero, i.size, i.bytes)) = some (some (.agg #[.int .i64 0, .slice none 0 0]), 2, 32) := by kernel_rfl
/-- a story of the call's own, no two claims of which share their marks -/
def StoryOut (s : List Cl) (o : Bool) (w : World) (e : Ending) (w' : World) : Prop := ∃ v us, e = .returned (.tuple #[v, .bool o]) ∧ us.map (·.2) = s ∧ StoryIn w' w.heap.size w.heap.size v us ∧ Apart us ∧ Below w.heap.size w w'
theorem link_take (p : Int) (ls : List Lk) (k : Nat) (hk : k < ls.length) : (ls.take (k + 1)).map (linkC p) = (ls.take k).map (linkC p) ++ [linkC p (ls.getD k lk0)] := by
  rw [List.take_succ_eq_append_getElem hk, List.map_append]
  simp only [List.map_cons, List.map_nil]
  rw [show ls.getD k lk0 = ls[k] by simp [List.getD, hk]]
theorem kind_I64 {p k l : Int} {t : Bool} (h : kindOk p k l t = true) : I64s (kindV p k l t).2 ∧ I64 (kindV p k l t).1 ∧ (kindV p k l t).2.length ≤ 2 := by
  obtain ⟨h1, h4, h5, h6, h7, h8⟩ := kind_ok.1 h
  unfold kindV
  rw [if_pos h]
  unfold kindL
  cases t
  · exact ⟨I64s_two (I64_small (by omega) (by omega)) (I64_small (by omega) (by omega)) (I64_small (by omega) (by omega)) (I64_small (by omega) (by omega)), I64_small (by show (-100 : Int) ≤ k; omega) (by show k ≤ 100; omega), by simp⟩
  · exact ⟨I64s_one (I64_small (by omega) (by omega)) (I64_small (by omega) (by omega)), I64_small (by show (-100 : Int) ≤ k; omega) (by show k ≤ 100; omega), by simp⟩
theorem cell_two {w : World} {g c o : Nat} {u x y : Value} (h : w.cell? ⟨c, o, none⟩ = some u) (hne : c ≠ g) : ((w.setCell ⟨g, 0, none⟩ x).setCell ⟨g, 1, none⟩ y).cell? ⟨c, o, none⟩ = some u := by
  rw [World.cell?_setCell_other _ _ _ _ (by simp), World.cell?_setCell_other _ _ _ _ (by simp)]
  exact h
theorem box_laid (w : World) (T : TypeId) : Box (w.alloc (.cells #[.int .i64 0, .slice none 0 0] T)) w.heap.size (.int .i64 0) (.slice none 0 0) := by
  obtain ⟨w1, e, h, _⟩ := Box.new w (.int .i64 0) (.slice none 0 0) T
  rw [← e]; exact h
/-- a story with one claim more -/
theorem story_pushed {wo w4 w5 : World} {v v' u : Value} {us : List QC} {k : Int} {ms : List (Int × Int)} {s : Nat} {o : Obj} (hb : Below wo.heap.size wo w4) (hs : StoryIn w4 wo.heap.size wo.heap.size v us) (hap : Apart us)
    (hlt : ∀ r ∈ us, ∀ k, r.1.ownBlock = some k → k < s) (hu : w4.ownsRow s TM 2 u ms.length (mcells ms)) (hsw : wo.heap.size ≤ s) (hi : I64s ms) (hk : I64 k)
    (hown : w5.ownsRow wo.heap.size TC 2 v' (us.length + 1) (ccells us ++ ccells [(u, (k, ms))])) (hg : (w4.alloc o).grownBy w5 v.ownBlock) :
    StoryIn w5 wo.heap.size wo.heap.size v' (us ++ [(u, (k, ms))]) ∧ Apart (us ++ [(u, (k, ms))]) ∧ Below wo.heap.size wo w5 :=
  ⟨(hs.alloc o).push ⟨(own_mono hu hsw).alloc o, hi, hk⟩ hown hg, hap.snoc hlt (fun k hk => (hu.lt k hk).1),
   (hb.alloc hb.size o).grown hg (by have := hb.size; simp; omega) (fun k hk => (hs.1.lt k hk).1)⟩
attribute [local irreducible] holds tabN tabV holdsV sameV followsV alwaysV matterV claimOk mayT mayV ctabV ctabN storyV storyOk storyN storyT ctermV ctermL kindOk kindV linksOk linkOk1 linkC linkS mergeR grpF lcells
set_option maxRecDepth 100000 in
set_option maxHeartbeats 8000000 in
theorem specLinkStory (p : Int) (ls : List Lk) (B : Nat) (v : Value) (w : World) (hr : RdLinks w B v ls) (hB : B ≤ w.heap.size) :
    Calls Try.prog 24 #[.int .i64 p, v] w (StoryOut (linkS p ls) (linksOk p ls) w) := by
  obtain ⟨ic, hci, hcz0, hcz1, hcz2⟩ := info_parts Try.infoC12
  have Ci := Lib.hid hci; clear hci
  have Cz0 := Lib.hid hcz0; clear hcz0
  have Cz1 := Lib.hid hcz1; clear hcz1
  have Cz2 := Lib.hid hcz2; clear hcz2
  obtain ⟨wo, rfl⟩ : ∃ wo : World, wo = w := ⟨_, rfl⟩
  have hown0 : (wo.alloc (.cells #[] TC)).ownsRow wo.heap.size TC 2 (.slice (some ⟨wo.heap.size, 0, none⟩) 0 0) 0 [] := World.ownsRow_made _ _ 0 (Nat.le_refl _) (by unfold maxLen; omega) rfl
  have hb0 : Below wo.heap.size wo (wo.alloc (.cells #[] TC)) := (Below.refl _ _).alloc (Nat.le_refl _) _
  have hst0 : StoryIn (wo.alloc (.cells #[] TC)) wo.heap.size wo.heap.size (.slice (some ⟨wo.heap.size, 0, none⟩) 0 0) [] := ⟨hown0, fun q hq => by simp at hq⟩
  have hso := fun w h => specLinksOk p ls B v w h
  have Hr0 := Lib.hid (hr.below (w' := wo.alloc (.cells #[] TC)) (fun q hq => hb0.block q (by omega)))
  obtain ⟨lo, lc, rfl, hll, hlm⟩ : ∃ lo lc, v = .slice lo ls.length lc ∧ ls.length ≤ lc ∧ lc ≤ maxLen := by
    obtain ⟨a, c, h1, h2, h3, _⟩ := hr; exact ⟨a, c, h1, h2, h3⟩
  unfold maxLen at hlm
  have Hb0 := Lib.hid hb0
  have Hst0 := Lib.hid hst0
  clear hown0 hb0 hst0
  cases hok : linksOk p ls with
  | false =>
    have Hf := Lib.hid (linkS_no hok)
    rw [hok] at hso
    have Hso := Lib.hid hso
    clear hso hok hr
    go_enter Try.func24, Try.ntmps24
    go_wp2_with fail
    refine (Hso.out _ Hr0.out).mono ?_
    rintro e w' ⟨rfl, rfl⟩
    go_wp2
    go_ret2
    exact ⟨_, [], rfl, by rw [Hf.out]; rfl, Hst0.out, List.Pairwise.nil, Hb0.out⟩
  | true =>
    obtain ⟨hmem, h1, h4, h6⟩ := linksOk_iff.1 hok
    have Hf := Lib.hid (linkS_yes hok)
    have Hkind : Hid (∀ k, k < ls.length → kindOk p (ls.getD k lk0).1 (ls.getD k lk0).2.1 (ls.getD k lk0).2.2 = true) := fun k hk => by
      rw [show ls.getD k lk0 = ls[k] by simp [List.getD, hk]]
      exact link_kind hok (List.getElem_mem hk)
    have Hend : Hid (ls.take ls.length = ls) := List.take_length
    have Htake := Lib.hid (fun k hk => link_take p ls k hk)
    rw [hok] at hso
    have Hso := Lib.hid hso
    have Hr := Lib.hid hr
    clear hso hok hr hmem h1 h4
    go_enter Try.func24, Try.ntmps24
    go_wp2_with fail
    refine (Hso.out _ Hr0.out).mono ?_
    rintro e w' ⟨rfl, rfl⟩
    go_wp2
    go_loopw [6, 7, 8, 9] (fun u i _ _ wr => ∃ (k : Nat) (us : List QC), k ≤ ls.length ∧ us.length = k ∧ i = .int .i64 k ∧ us.map (·.2) = (ls.take k).map (linkC p) ∧ (∃ ao cp, u = .slice ao k cp) ∧ StoryIn wr wo.heap.size wo.heap.size u us ∧ Apart us ∧ Below wo.heap.size wo wr) (fun _ i _ _ _ => ls.length - (intOf i).toNat)
    case atStart => exact ⟨0, [], Nat.zero_le _, rfl, rfl, rfl, ⟨_, _, rfl⟩, Hst0.out, List.Pairwise.nil, Hb0.out⟩
    case round =>
      obtain ⟨k, us, hk, hul, rfl, hum, ⟨uo, uc, rfl⟩, hst, hap, hbel⟩ := hrel
      by_cases hlt : k < ls.length
      · have Hrs := Lib.hid (Hr.out.below (w' := wr) (fun q hq => hbel.block q (by omega)))
        obtain ⟨ao', cap', hv', _, _, hl64, hc0⟩ := Hrs.out
        obtain ⟨b, off, hao, hb, hc1, hc2, hc3⟩ := hc0 k hlt
        injection hv' with hv1 hv2 hv3
        subst hv1 hv3
        subst hao
        have hmem : ls.getD k lk0 ∈ ls := by rw [show ls.getD k lk0 = ls[k] by simp [List.getD, hlt]]; exact List.getElem_mem hlt
        have hl2 := (hl64 _ hmem).2
        have hkd := Hkind.out k hlt
        have hki := kind_I64 hkd
        have htk := Htake.out k hlt
        unfold linkC at htk
        rw [show (fun l : Lk => kindV p l.1 l.2.1 l.2.2) = linkC p by unfold linkC; rfl] at htk
        clear hc0 hv2 hmem hl64 hkd
        generalize ls.getD k lk0 = l at *
        obtain ⟨la, lb, lt⟩ := l
        dsimp only at hc1 hc2 hc3 hl2 hki htk
        have Hkc := Lib.hid (fun w => specKindClaim p la lb lt hl2 w)
        generalize kindV p la lb lt = c at *
        generalize kindOk p la lb lt = o at *
        obtain ⟨ck, cm⟩ := c
        dsimp only at hki htk
        unfold ClaimOut at Hkc
        dsimp only at Hkc
        have Hki := Lib.hid hki
        have Htk := Lib.hid htk
        have Hum := Lib.hid hum
        have Hst := Lib.hid hst
        have Hap := Lib.hid hap
        have Hbel := Lib.hid hbel
        have hbw : b < wr.heap.size := by have := hbel.size; omega
        have hwr : wo.heap.size ≤ wr.heap.size := hbel.size
        have hbne : b ≠ wr.heap.size := by omega
        clear hki htk hum hst hap hbel hl2
        go_wp2_with fail
        go_region_held3 (fun w' => w'.cell? ⟨b, off + k * 3, none⟩ = some (.int .i64 la) ∧ w'.cell? ⟨b, off + k * 3 + 1, none⟩ = some (.int .i64 lb) ∧ w'.cell? ⟨b, off + k * 3 + 2, none⟩ = some (.bool lt))
          (first | (refine ⟨?_, ?_, ?_⟩ <;> first | assumption | exact cell_two (by assumption) hbne | go_keep) | assumption)
          (first
            | (go_at_call 55
               (with_reducible refine (Hkc.out _).mono ?_)
               rintro e wn ⟨vc, rfl, hown, hbn⟩
               go_must (obtain ⟨fo, fc, hf⟩ := own_len hown
                        subst hf
                        first
                          | (have hbn2 : Below wr.heap.size wr wn := by first | exact hbn | exact below_undrewS hbn | exact below_undrewN hbn
                             have hown2 : wn.ownsRow wr.heap.size TM 2 (.slice fo cm.length fc) cm.length (mcells cm) := hown
                             have e1 := (hbn2.cell (p := ⟨b, off + k * 3, none⟩) (by show b < _; exact hbw)).trans hc1
                             have e2 := (hbn2.cell (p := ⟨b, off + k * 3 + 1, none⟩) (by show b < _; exact hbw)).trans hc2
                             have e3 := (hbn2.cell (p := ⟨b, off + k * 3 + 2, none⟩) (by show b < _; exact hbw)).trans hc3
                             have HA := Lib.hid (And.intro hbn2 hown2)
                             clear hown hbn hbn2 hown2)
                          | (have hbn3 : Below (wr.alloc (.cells #[.int .i64 0, .slice none 0 0] TC)).heap.size (wr.alloc (.cells #[.int .i64 0, .slice none 0 0] TC)) wn := by first | exact hbn | exact below_undrewS hbn | exact below_undrewN hbn
                             have hown2 : wn.ownsRow wr.heap.size TM 2 (.slice fo cm.length fc) cm.length (mcells cm) := own_mono hown (by show wr.heap.size ≤ (wr.alloc _).heap.size; simp)
                             have hbn2 : Below wr.heap.size wr wn := ((Below.refl _ _).alloc (Nat.le_refl _) _).trans (hbn3.mono (by simp))
                             have hbox := (box_laid wr TC).below hbn3
                             have e1 := (hbn2.cell (p := ⟨b, off + k * 3, none⟩) (by show b < _; exact hbw)).trans hc1
                             have e2 := (hbn2.cell (p := ⟨b, off + k * 3 + 1, none⟩) (by show b < _; exact hbw)).trans hc2
                             have e3 := (hbn2.cell (p := ⟨b, off + k * 3 + 2, none⟩) (by show b < _; exact hbw)).trans hc3
                             have HA := Lib.hid (And.intro hbn2 hown2)
                             have HX := Lib.hid hbox
                             have HO3 : Hid (wn.ownsRow (wr.heap.size + 1) TM 2 (.slice fo cm.length fc) cm.length (mcells cm)) := own_mono hown (by show wr.heap.size + 1 ≤ (wr.alloc _).heap.size; simp)
                             obtain ⟨x1, x2, x3, x4, x5⟩ := hbox
                             clear hown hbn hbn2 hbn3 hown2)))
            | fail)
        · obtain ⟨wC, hwC, hx, hbC, _⟩ := Box.new wn (.int .i64 ck) (.slice fo cm.length fc) TC
          rw [← hwC]
          obtain ⟨z1, z2, z3, z4, z5⟩ := hx
          have HbC := HA.out.1.trans (hbC.mono HA.out.1.size)
          have HoC := own_below HA.out.2 hbC
          clear hwC hbC
          have hbC2 := Hbel.out.trans (HbC.mono hwr)
          have hsC := hbC2.size
          have Hall := Lib.hid (fun v' w5 h1 h2 => story_pushed (w5 := w5) (v' := v') (u := .slice fo cm.length fc) (k := ck) (ms := cm) (o := .cells #[.int .i64 ck, .slice fo cm.length fc] TC) hbC2 (Hst.out.below HbC) Hap.out (fun r hr k hk => ((Hst.out.2 r hr).1.lt k hk).2) HoC hwr Hki.out.1 Hki.out.2.1 h1 h2)
          have HstC := Lib.hid ((Hst.out.below HbC).1)
          have hus6 : us.length ≤ 6 := by omega
          clear hbC2 HbC HoC HA
          go_wp2_with (at_builtin; refine wpList_append_own _ rfl _ _ 26 rfl wo.heap.size TC ic (.agg #[.int .i64 0, .slice none 0 0]) 2 32 Try.underlying26 Ci.out Cz0.out Cz1.out Cz2.out rfl (by decide) _ _ _ rfl (HstC.out.alloc _) ⟨wC.heap.size, 0, none⟩ 1 1 (ccells [(.slice fo cm.length fc, (ck, cm))]) rfl rfl (newsC _ _ rfl _ _ _ _) (ccells_one (by simp [Value.oneCell'])) (by unfold maxLen; omega) (by omega) (by simp; omega) ?_)
          intro v' w5 hown' hgrow _
          have Hout := Lib.hid (Hall.out v' w5 (by rw [hul]; exact hown') hgrow)
          obtain ⟨ao', cp', rfl⟩ := own_len hown'
          clear hown' hgrow Hall HstC
          go_wp2
          go_roundw
          case rel => exact ⟨k + 1, us ++ [(.slice fo cm.length fc, (ck, cm))], by omega, by simp [hul], by go_num, by rw [List.map_append, Hum.out, Htk.out]; rfl, ⟨ao', cp', by simp⟩, Hout.out.1, Hout.out.2.1, Hout.out.2.2⟩
          case measure => simp [intOf]; omega
        · obtain ⟨wC, eC, hx, hg⟩ := HX.out.set (.int .i64 ck) (.slice fo cm.length fc)
          rw [← eC]
          obtain ⟨z1, z2, z3, z4, z5⟩ := hx
          have HbC := HA.out.1.grown hg HA.out.1.size (fun k hk => by cases hk; exact Nat.le_refl _)
          have HoC := own_mono (base := wr.heap.size) (own_row HO3.out hg (by omega)) (by omega)
          clear eC hg HX HO3 x1 x2 x3 x4 x5
          have hbC2 := Hbel.out.trans (HbC.mono hwr)
          have hsC := hbC2.size
          have Hall := Lib.hid (fun v' w5 h1 h2 => story_pushed (w5 := w5) (v' := v') (u := .slice fo cm.length fc) (k := ck) (ms := cm) (o := .cells #[.int .i64 ck, .slice fo cm.length fc] TC) hbC2 (Hst.out.below HbC) Hap.out (fun r hr k hk => ((Hst.out.2 r hr).1.lt k hk).2) HoC hwr Hki.out.1 Hki.out.2.1 h1 h2)
          have HstC := Lib.hid ((Hst.out.below HbC).1)
          have hus6 : us.length ≤ 6 := by omega
          clear hbC2 HbC HoC HA
          go_wp2_with (at_builtin; refine wpList_append_own _ rfl _ _ 26 rfl wo.heap.size TC ic (.agg #[.int .i64 0, .slice none 0 0]) 2 32 Try.underlying26 Ci.out Cz0.out Cz1.out Cz2.out rfl (by decide) _ _ _ rfl (HstC.out.alloc _) ⟨wC.heap.size, 0, none⟩ 1 1 (ccells [(.slice fo cm.length fc, (ck, cm))]) rfl rfl (newsC _ _ rfl _ _ _ _) (ccells_one (by simp [Value.oneCell'])) (by unfold maxLen; omega) (by omega) (by simp; omega) ?_)
          intro v' w5 hown' hgrow _
          have Hout := Lib.hid (Hall.out v' w5 (by rw [hul]; exact hown') hgrow)
          obtain ⟨ao', cp', rfl⟩ := own_len hown'
          clear hown' hgrow Hall HstC
          go_wp2
          go_roundw
          case rel => exact ⟨k + 1, us ++ [(.slice fo cm.length fc, (ck, cm))], by omega, by simp [hul], by go_num, by rw [List.map_append, Hum.out, Htk.out]; rfl, ⟨ao', cp', by simp⟩, Hout.out.1, Hout.out.2.1, Hout.out.2.2⟩
          case measure => simp [intOf]; omega
      · obtain rfl : k = ls.length := by omega
        have Hst := Lib.hid hst
        have Hum := Lib.hid hum
        have Hap := Lib.hid hap
        have Hbel := Lib.hid hbel
        clear hst hum hap hbel
        go_wp2
        go_ret2
        exact ⟨_, us, rfl, by rw [Hum.out, Hend.out, Hf.out], Hst.out, Hap.out, Hbel.out⟩
set_option maxRecDepth 100000 in
set_option maxHeartbeats 4000000 in
theorem specLinkWorlds (p : Int) (ls : List Lk) (B : Nat) (v : Value) (w : World) (hr : RdLinks w B v ls) (hB : B ≤ w.heap.size) :
    Calls Try.prog 33 #[.int .i64 p, v] w fun e w' => e = .returned (.int .i64 (lwV p ls)) ∧ Below w.heap.size w w' := by
  have hs := fun w h hB => specLinkStory p ls B v w h hB
  unfold StoryOut at hs
  cases hok : linksOk p ls with
  | false =>
    have Hf : Hid (lwV p ls = -1) := by unfold Hid lwV; rw [hok]; rfl
    rw [hok] at hs
    have Hs := Lib.hid hs
    clear hs hok
    go_enter Try.func33, Try.ntmps33
    go_wp2_with fail
    refine (Hs.out _ hr hB).mono ?_
    rintro e w2 ⟨v2, us, rfl, _, _, _, hb2⟩
    have Hb2 := Lib.hid hb2; clear hb2
    go_wp2
    go_ret
    exact ⟨by rw [Hf.out]; rfl, Hb2.out⟩
  | true =>
    have Hf : Hid (lwV p ls = (heads (storyN p (linkS p ls)) : Int)) := by unfold Hid lwV; rw [hok]; rfl
    obtain ⟨_, h1, h4, _⟩ := linksOk_iff.1 hok
    have hlt := storyN_lt (p := p) (s := linkS p ls) h1 h4
    have hcl := linkS_ok hok
    rw [hok] at hs
    have Hs := Lib.hid hs
    have Hcl := Lib.hid hcl
    clear hs hok hcl
    go_enter Try.func33, Try.ntmps33
    go_wp2_with fail
    refine (Hs.out _ hr hB).mono ?_
    rintro e w2 ⟨v2, us, rfl, hus, hst, _, hb2⟩
    have hok2 : storyOk p (us.map (·.2)) = true := by rw [hus]; exact Hcl.out
    have Hst := Lib.hid (specStoryTab p us hok2 w2.heap.size v2 w2 hst.rd (Nat.le_refl _))
    rw [hus] at Hst
    have Hb2 := Lib.hid hb2
    clear hb2 hst hus hok2
    generalize storyN p (linkS p ls) = T at *
    go_wp2_with fail
    refine Hst.out.mono ?_
    rintro e w3 ⟨rfl, hb3⟩
    have Hb3 := Lib.hid (Hb2.out.trans (hb3.mono Hb2.out.size)); clear hb3
    go_wp2_with fail
    refine (specHeads T (by omega) _).mono ?_
    rintro e w' ⟨rfl, rfl⟩
    go_wp2
    go_ret
    exact ⟨by rw [Hf.out]; rfl, Hb3.out⟩
end Go.Proofs.Ythiabicleedleaa
