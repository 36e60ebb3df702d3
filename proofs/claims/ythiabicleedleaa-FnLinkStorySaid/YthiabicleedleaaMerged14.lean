/- Texts of a proof, merged: ClaimE, ClaimF, ClaimG, MarksH, One. -/
import Derived.Test.YthiabicleedleaaMerged8
import Derived.Test.YthiabicleedleaaMerged6
import Derived.Deep.RegionHeld3
import Derived.Deep.Cut
import Derived.Test.YthiabicleedleaaMerged7
import Derived.Test.YthiabicleedleaaMerged9
import Derived.Maps.AppendAt
/- Contracts of what the laws do with claims. -/
namespace Go.Proofs.Ythiabicleedleaa
open Go.RowKit Go.Joins
/-- two blocks laid, one behind the other -/
theorem boxes_new (w : World) (a b c d : Value) (T U : TypeId) : ∃ w2 : World, w2 = (w.alloc (.cells #[a, b] T)).alloc (.cells #[c, d] U) ∧ Box w2 w.heap.size a b ∧ Box w2 (w.heap.size + 1) c d ∧ Below w.heap.size w w2 ∧ w.heap.size + 1 < w2.heap.size := by
  obtain ⟨w1, e1, h1, hb1, hs1⟩ := Box.new w a b T
  obtain ⟨w2, e2, h2, hb2, hs2⟩ := Box.new w1 c d U
  have e : w1.heap.size = w.heap.size + 1 := by rw [e1]; simp
  rw [e] at h2 hs2
  exact ⟨w2, by rw [e2, e1], h1.below hb2, h2, hb1.trans (hb2.mono hb1.size), hs2⟩
set_option maxHeartbeats 1000000 in
theorem sameClaim (k : Int) (ms : List (Int × Int)) (B B' : Nat) (u u' : Value) (w : World) (hr : RdMarks w B u ms) (hr' : RdMarks w B' u' ms) (hB : B ≤ w.heap.size) (hB' : B' ≤ w.heap.size) :
    Calls Try.prog 44 #[.agg #[.int .i64 k, u], .agg #[.int .i64 k, u']] w fun e w' => e = .returned (.bool true) ∧ Below w.heap.size w w' := by
  go_enter Try.func44, Try.ntmps44
  go_upto_region 1 with fail
  obtain ⟨w2, hw2, hx, hy, hb, hs⟩ := boxes_new w (.int .i64 k) u (.int .i64 k) u' TC TC
  rw [← hw2]
  have Hr := Lib.hid (hr.below (w' := w2) (fun q hq => hb.block q (by omega)))
  have Hr' := Lib.hid (hr'.below (w' := w2) (fun q hq => hb.block q (by omega)))
  obtain ⟨x1, x2, _⟩ := hx
  obtain ⟨y1, y2, _⟩ := hy
  have Hb := Lib.hid hb
  clear hr hr' hb hw2
  go_wp2_with fail
  refine (sameMarks ms ms _ _ _ _ _ Hr.out Hr'.out).mono ?_
  rintro e w' ⟨rfl, n, rfl⟩
  rw [show decide (ms = ms) = true from by simp]
  go_wp2
  go_ret
  exact ⟨rfl, by first | exact below_drewN Hb.out _ | exact Hb.out⟩
end Go.Proofs.Ythiabicleedleaa
/- Contracts of what the laws do with stories. -/
namespace Go.Proofs.Ythiabicleedleaa
open Go.RowKit Go.Joins
theorem below_drewR {B : Nat} {a w : World} (h : Below B a w) : Below B a w.drew := h.trans ⟨rfl, rfl, rfl, Nat.le_refl _, fun _ _ => rfl⟩
theorem same_len {xs ys : List QC} (h : xs.map (·.2) = ys.map (·.2)) : xs.length = ys.length := by
  have := congrArg List.length h
  simpa using this
theorem same_at {xs ys : List QC} (h : xs.map (·.2) = ys.map (·.2)) (j : Nat) : (xs.getD j qc0).2 = (ys.getD j qc0).2 := by
  have := congrArg (fun l => l.getD j qc0.2) h
  simpa [List.getD_eq_getElem?_getD, List.getElem?_map, Option.getD_map] using this
set_option maxRecDepth 100000 in
set_option maxHeartbeats 2000000 in
theorem sameStory (xs ys : List QC) (he : xs.map (·.2) = ys.map (·.2)) (B B' : Nat) (a b : Value) (w : World) (hx : RdStory w B a xs) (hy : RdStory w B' b ys) (hB : B ≤ w.heap.size) (hB' : B' ≤ w.heap.size) :
    Calls Try.prog 12 #[a, b] w fun e w' => e = .returned (.bool true) ∧ Below w.heap.size w w' := by
  have hlen := same_len he
  have Hat := Lib.hid (fun j => same_at he j)
  have Hx := Lib.hid hx
  have Hy := Lib.hid hy
  obtain ⟨ao, acap, rfl, hal, ham, _, hac0⟩ := hx
  obtain ⟨bo, bcap, rfl, hbl, hbm, _, hbc0⟩ := hy
  have hac := Lib.hid hac0; clear hac0
  have hbc := Lib.hid hbc0; clear hbc0
  unfold maxLen at ham hbm
  have hbc1 : Hid (∀ (j : Nat), j < xs.length → ∃ b off, bo = some ⟨b, off, none⟩ ∧ b < B' ∧ w.cell? ⟨b, off + j * 2, none⟩ = some (.int .i64 (ys.getD j qc0).2.1) ∧ w.cell? ⟨b, off + j * 2 + 1, none⟩ = some (ys.getD j qc0).1) := fun j hj => hbc.out j (by omega)
  have Hy1 : Hid (∀ (j : Nat), j < xs.length → RdMarks w B' (ys.getD j qc0).1 (ys.getD j qc0).2.2) := fun j hj => (Hy.out.get (by omega)).1
  rw [← hlen] at hbl ⊢
  clear hlen hbc Hy he
  obtain ⟨wo, rfl⟩ : ∃ wo : World, wo = w := ⟨_, rfl⟩
  go_enter Try.func12, Try.ntmps12
  go_wp2
  go_loopw [5] (fun i wr => ∃ k : Nat, k ≤ xs.length ∧ i = .int .i64 k ∧ Below wo.heap.size wo wr) (fun i _ => xs.length - (intOf i).toNat)
  case atStart => exact ⟨0, Nat.zero_le _, rfl, Below.refl _ _⟩
  case round =>
    obtain ⟨j, hj, rfl, hbel⟩ := hrel
    by_cases hlt : j < xs.length
    · obtain ⟨b1, o1, rfl, hb1, hc1, hc1'⟩ := hac.out j hlt
      obtain ⟨b2, o2, rfl, hb2, hc2, hc2'⟩ := hbc1.out j hlt
      rw [← hbel.cell (p := ⟨b1, _, none⟩) (show b1 < _ by omega)] at hc1 hc1'
      rw [← hbel.cell (p := ⟨b2, _, none⟩) (show b2 < _ by omega)] at hc2 hc2'
      have hm1 := (Hx.out.get hlt).1.below (w' := wr) (fun q hq => hbel.block q (by omega))
      have hm2 := (Hy1.out j hlt).below (w' := wr) (fun q hq => hbel.block q (by omega))
      have heq := Hat.out j
      generalize xs.getD j qc0 = z at *
      generalize ys.getD j qc0 = z' at *
      obtain ⟨u, c⟩ := z
      obtain ⟨u', c'⟩ := z'
      dsimp only at heq
      subst heq
      obtain ⟨k, ms⟩ := c
      dsimp only at hc1 hc1' hc2 hc2' hm1 hm2
      have Hm1 := Lib.hid hm1
      have Hm2 := Lib.hid hm2
      have hBr : B ≤ wr.heap.size := by have := hbel.size; omega
      have hBr' : B' ≤ wr.heap.size := by have := hbel.size; omega
      have Hbel := Lib.hid hbel
      have hij1 : (0 : Int) ≤ (j : Int) := by omega
      have hij2 : (j : Int) < (xs.length : Int) := by omega
      clear hm1 hm2 hbel
      go_wp2_with fail
      go_region_held3 (fun w' => w'.cell? ⟨b1, o1 + j * 2, none⟩ = some (.int .i64 k) ∧ w'.cell? ⟨b1, o1 + j * 2 + 1, none⟩ = some u ∧ w'.cell? ⟨b2, o2 + j * 2, none⟩ = some (.int .i64 k) ∧ w'.cell? ⟨b2, o2 + j * 2 + 1, none⟩ = some u')
        (first | (refine ⟨?_, ?_, ?_, ?_⟩ <;> first | go_keep | assumption) | assumption)
        (first
          | (go_at_call 44
             (with_reducible refine (sameClaim k ms B B' u u' _ ?_ ?_ ?_ ?_).mono ?_)
             · exact Hm1.out
             · exact Hm2.out
             · exact hBr
             · exact hBr'
             rintro e wn ⟨rfl, hbn'⟩
             go_must (have hbn : Below wr.heap.size wr wn := by first | exact hbn' | exact below_undrewS hbn' | exact below_undrewN hbn'
                      clear hbn'
                      have d1 := (hbn.cell (p := ⟨b1, o1 + j * 2, none⟩) (show b1 < _ by omega)).trans hc1
                      have d2 := (hbn.cell (p := ⟨b1, o1 + j * 2 + 1, none⟩) (show b1 < _ by omega)).trans hc1'
                      have d3 := (hbn.cell (p := ⟨b2, o2 + j * 2, none⟩) (show b2 < _ by omega)).trans hc2
                      have d4 := (hbn.cell (p := ⟨b2, o2 + j * 2 + 1, none⟩) (show b2 < _ by omega)).trans hc2'
                      have Hbn := Lib.hid (Hbel.out.trans (hbn.mono Hbel.out.size))
                      clear hbn))
          | fail)
      go_wp2
      go_roundw
      case rel => exact ⟨j + 1, by omega, by go_num, by first | exact Hbn.out | exact below_drewR Hbn.out | exact below_drewN Hbn.out _⟩
      case measure => simp [intOf]; omega
    · obtain rfl : j = xs.length := by omega
      have Hbel := Lib.hid hbel; clear hbel
      go_wp2
      go_ret
      exact ⟨rfl, Hbel.out⟩
end Go.Proofs.Ythiabicleedleaa
/- Contracts of what the exact laws do with stories that came in. -/
namespace Go.Proofs.Ythiabicleedleaa
open Go.RowKit Go.Joins
theorem ccells_set (A R : List QC) (q q' : QC) (k : Nat) (hk : A.length = k) :
    ((ccells (A ++ q :: R)).set (k * 2) (.int .i64 q'.2.1)).set (k * 2 + 1) q'.1 = ccells (A ++ q' :: R) := by
  subst hk
  have hl := ccells_length A
  rw [ccells_append, ccells_append, List.set_append_right _ _ (by omega), List.set_append_right _ _ (by omega), hl]
  have e1 : A.length * 2 - A.length * 2 = 0 := by omega
  have e2 : A.length * 2 + 1 - A.length * 2 = 1 := by omega
  rw [e1, e2]
  rfl
theorem ccells_zero (n : Nat) : (madeCells #[Value.int .i64 0, Value.slice none 0 0] (n * 2)).toList = ccells (List.replicate n qc0) := by
  refine List.ext_getElem (by rw [ccells_length]; simp [madeCells]) fun i h1 h2 => ?_
  have hl : i < n * 2 := by rw [ccells_length] at h2; simpa using h2
  obtain ⟨g1, g2⟩ := ccells_get (List.replicate n qc0) (i / 2) (by simp; omega)
  have hq : (List.replicate n qc0).getD (i / 2) qc0 = qc0 := by
    rw [List.getD_eq_getElem?_getD, List.getElem?_replicate]
    split <;> rfl
  rw [hq] at g1 g2
  have hm : i % 2 = 0 ∨ i % 2 = 1 := by omega
  rcases hm with hm | hm
  · have ei : i / 2 * 2 = i := by omega
    rw [ei] at g1
    have := (List.getElem?_eq_some_iff.1 g1).2
    rw [this]
    simp [madeCells, hm, qc0]
  · have ei : i / 2 * 2 + 1 = i := by omega
    rw [ei] at g2
    have := (List.getElem?_eq_some_iff.1 g2).2
    rw [this]
    simp [madeCells, hm, qc0]
theorem rep_succ (n k : Nat) (h : k < n) : List.replicate (n - k) qc0 = qc0 :: List.replicate (n - (k + 1)) qc0 := by
  rw [show n - k = (n - (k + 1)) + 1 from by omega]; rfl
/-- what some claims say lies in blocks of which no two are the same -/
def Apart (us : List QC) : Prop := us.Pairwise fun a b => a.1.ownBlock = none ∨ a.1.ownBlock ≠ b.1.ownBlock
theorem Apart.snoc {us : List QC} {q : QC} {s : Nat} (h : Apart us) (hl : ∀ r ∈ us, ∀ k, r.1.ownBlock = some k → k < s) (hq : ∀ k, q.1.ownBlock = some k → s ≤ k) : Apart (us ++ [q]) := by
  refine List.pairwise_append.2 ⟨h, by simp, fun a ha b hb => ?_⟩
  simp at hb; subst hb
  exact own_apart (hl a ha) hq
end Go.Proofs.Ythiabicleedleaa
/- Contracts over rows of marks: numbers laid into a row, and held there. -/
namespace Go.Proofs.Ythiabicleedleaa
open Go.RowKit Go.Joins

/-- numbers laid one behind the other, two a mark -/
def lay (k0 n : Nat) : List (Int × Int) := (List.range n).map fun j => (((k0 + j * 2 : Nat) : Int), ((k0 + j * 2 + 1 : Nat) : Int))
theorem lay_length (k0 n : Nat) : (lay k0 n).length = n := by simp [lay]
theorem lay_succ (k0 n : Nat) : lay k0 (n + 1) = lay k0 n ++ [(((k0 + n * 2 : Nat) : Int), ((k0 + n * 2 + 1 : Nat) : Int))] := by simp [lay, List.range_succ]
theorem lay_get (k0 n j : Nat) (h : j < n) : (lay k0 n).getD j (0, 0) = (((k0 + j * 2 : Nat) : Int), ((k0 + j * 2 + 1 : Nat) : Int)) := by simp [lay, List.getD, h]
theorem lay_set (zs : List (Int × Int)) (k0 k : Nat) (hk : k < zs.length) :
    ((mcells (lay k0 k ++ zs.drop k)).set (k * 2) (.int .i64 ((k0 + k * 2 : Nat) : Int))).set (k * 2 + 1) (.int .i64 ((k0 + k * 2 + 1 : Nat) : Int)) = mcells (lay k0 (k + 1) ++ zs.drop (k + 1)) := by
  rw [List.drop_eq_getElem_cons hk, lay_succ, List.append_assoc]
  exact mcells_set (lay k0 k) (zs.drop (k + 1)) zs[k] (((k0 + k * 2 : Nat) : Int), ((k0 + k * 2 + 1 : Nat) : Int)) k (lay_length _ _)
theorem lay_I64 {k0 n : Nat} (h : k0 + n * 2 ≤ 4611686018427387904) : I64s (lay k0 n) := by
  intro m hm
  obtain ⟨j, hj, rfl⟩ := List.mem_map.1 hm
  have := List.mem_range.1 hj
  unfold I64
  dsimp only
  omega
attribute [local irreducible] lay


end Go.Proofs.Ythiabicleedleaa
/- Contracts of the reference's stories with one answer: what is said of stories in memory. -/
namespace Go.Proofs.Ythiabicleedleaa
open Go.RowKit Go.Joins
theorem RdStory.cells {w : World} {B b off n cap : Nat} {qs : List QC} (h : RdStory w B (.slice (some ⟨b, off, none⟩) n cap) qs) : ∀ (j : Nat) (u : Value), (ccells qs)[j]? = some u → w.cell? ((⟨b, off, none⟩ : Addr).add j) = some u := by
  intro j u hj
  obtain ⟨ao, cap', hv, hl, _, _, hc⟩ := h
  cases hv
  have hlt : j < qs.length * 2 := by
    rw [← ccells_length]
    exact (List.getElem?_eq_some_iff.1 hj).1
  obtain ⟨b', off', he, _, h1, h2⟩ := hc (j / 2) (by omega)
  cases he
  obtain ⟨g1, g2⟩ := ccells_get qs (j / 2) (by omega)
  have e : (⟨b, off, none⟩ : Addr).add j = ⟨b, off + j, none⟩ := by simp [Addr.add]
  rw [e]
  rcases Nat.mod_two_eq_zero_or_one j with hm | hm
  · have ej : j = j / 2 * 2 := by omega
    rw [ej] at hj ⊢
    rw [g1] at hj
    cases hj
    exact h1
  · have ej : j = j / 2 * 2 + 1 := by omega
    rw [ej] at hj ⊢
    rw [g2] at hj
    cases hj
    exact h2
theorem RdStory.one {w : World} {B : Nat} {v : Value} {qs : List QC} (h : RdStory w B v qs) : ∀ u ∈ ccells qs, u.oneCell' = true := by
  obtain ⟨_, _, _, _, _, hi, _⟩ := h
  refine ccells_one fun q hq => ?_
  obtain ⟨ao, cap, hv, _⟩ := (hi q hq).1
  rw [hv]; rfl
theorem getD_take {qs : List QC} {k j : Nat} (h : j < k) : (qs.take k).getD j qc0 = qs.getD j qc0 := by
  rw [List.getD_eq_getElem?_getD, List.getD_eq_getElem?_getD, List.getElem?_take, if_pos h]
theorem getD_drop {qs : List QC} {k j : Nat} : (qs.drop k).getD j qc0 = qs.getD (k + j) qc0 := by
  rw [List.getD_eq_getElem?_getD, List.getD_eq_getElem?_getD, List.getElem?_drop]
/-- the first claims of a story -/
theorem RdStory.pre {w : World} {B : Nat} {ao : Option Addr} {n cap k : Nat} {qs : List QC} (h : RdStory w B (.slice ao n cap) qs) (hk : k ≤ n) : RdStory w B (.slice ao k cap) (qs.take k) := by
  obtain ⟨ao', cap', hv, hl, hm, hi, hc⟩ := h
  cases hv
  refine ⟨ao, cap, by rw [List.length_take, Nat.min_eq_left hk], by rw [List.length_take]; omega, hm, fun q hq => hi q (List.mem_of_mem_take hq), fun j hj => ?_⟩
  rw [List.length_take] at hj
  rw [getD_take (by omega)]
  exact hc j (by omega)
/-- the claims of a story behind the first ones -/
theorem RdStory.post {w : World} {B b off n cap k : Nat} {qs : List QC} (h : RdStory w B (.slice (some ⟨b, off, none⟩) n cap) qs) (hk : k ≤ n) : RdStory w B (.slice (some ⟨b, off + k * 2, none⟩) (n - k) (cap - k)) (qs.drop k) := by
  obtain ⟨ao', cap', hv, hl, hm, hi, hc⟩ := h
  cases hv
  refine ⟨_, cap - k, by rw [List.length_drop], by rw [List.length_drop]; omega, by omega, fun q hq => hi q (List.mem_of_mem_drop hq), fun j hj => ?_⟩
  rw [List.length_drop] at hj
  obtain ⟨b', off', he, h1, h2, h3⟩ := hc (k + j) (by omega)
  cases he
  rw [getD_drop]
  refine ⟨b, off + k * 2, rfl, h1, ?_, ?_⟩
  · rw [← h2]; congr 2; omega
  · rw [← h3]; congr 2; omega
theorem rdStory_own {w : World} {base n : Nat} {v : Value} {qs : List QC} (ho : w.ownsRow base TC 2 v n (ccells qs)) (hn : n = qs.length) (hq' : ∀ q ∈ qs, RdMarks w w.heap.size q.1 q.2.2 ∧ I64 q.2.1) : RdStory w w.heap.size v qs := by
  subst hn
  rcases ho.2 with ⟨rfl, hn⟩ | ⟨g, cap, cur, rfl, hb, hg, hnc, hcm, hcs, htake⟩
  · have : qs = [] := List.eq_nil_of_length_eq_zero hn
    subst this
    exact ⟨none, 0, rfl, Nat.le_refl _, by unfold maxLen; omega, hq', fun j hj => by simp at hj⟩
  · refine ⟨_, cap, rfl, hnc, hcm, hq', fun j hj => ⟨g, 0, rfl, (Array.getElem?_eq_some_iff.1 hg).1, ?_, ?_⟩⟩
    · rw [cell_of_row w g (0 + j * 2) cur TC (0, 0) hg]
      have h1 := (ccells_get qs j hj).1
      rw [← htake, List.getElem?_take] at h1
      split at h1
      · simpa using h1
      · cases h1
    · rw [cell_of_row w g (0 + j * 2 + 1) cur TC (0, 0) hg]
      have h1 := (ccells_get qs j hj).2
      rw [← htake, List.getElem?_take] at h1
      split at h1
      · simpa using h1
      · cases h1
theorem RdStory.marks {w : World} {B : Nat} {v : Value} {qs : List QC} (h : RdStory w B v qs) : ∀ q ∈ qs, RdMarks w B q.1 q.2.2 ∧ I64 q.2.1 := by
  obtain ⟨_, _, _, _, _, hi, _⟩ := h
  exact hi
theorem RdStory.len {w : World} {B : Nat} {v : Value} {qs : List QC} (h : RdStory w B v qs) : ∃ ao cap, v = .slice ao qs.length cap ∧ qs.length ≤ cap ∧ cap ≤ maxLen ∧ (0 < qs.length → ∃ b off, ao = some ⟨b, off, none⟩ ∧ b < B) := by
  obtain ⟨ao, cap, hv, hl, hm, _, hc⟩ := h
  exact ⟨ao, cap, hv, hl, hm, fun h0 => by obtain ⟨b, off, h1, h2, _⟩ := hc 0 h0; exact ⟨b, off, h1, h2⟩⟩
theorem clash_yes {p : Int} {s : List Cl} (h : storyOk p s = true) : clashV p s = decide (storyN p s = 0) := by simp [clashV, h]
theorem onlyN_one {p : Int} {s : List Cl} {z : Nat} (h : swl p s = [z]) : onlyN p s = z ∧ onlyOk p s = true := by simp [onlyN, onlyOk, h]
theorem onlyN_not {p : Int} {s : List Cl} (h : (swl p s).length ≠ 1) : onlyN p s = -1 ∧ onlyOk p s = false := by simp [onlyN, onlyOk, h]
theorem woL_take_drop (qs : List QC) (k : Nat) : ccells (woL qs k) = ccells (qs.take k) ++ ccells (qs.drop (k + 1)) := by unfold woL; rw [ccells_append]
def QN (p : Int) (l : List QC) : Nat := storyN p (l.map (·.2))
theorem least_step (N : List QC → Nat) {zs : List QC} {n : Nat} (hn : n < zs.length) : leastR N (zs.take n) (zs.drop n) = if N (woL zs n) = N zs then leastR N ((woL zs n).take n) ((woL zs n).drop n) else leastR N (zs.take (n + 1)) (zs.drop (n + 1)) := by
  have e1 : zs.drop n = zs[n] :: zs.drop (n + 1) := List.drop_eq_getElem_cons hn
  have e2 : zs.take n ++ zs[n] :: zs.drop (n + 1) = zs := by rw [← e1, List.take_append_drop]
  have hl : (zs.take n).length = n := by rw [List.length_take]; omega
  have e3 : (woL zs n).take n = zs.take n := by unfold woL; rw [List.take_append_of_le_length (by omega), List.take_take, Nat.min_self]
  have e4 : (woL zs n).drop n = zs.drop (n + 1) := by unfold woL; rw [List.drop_append_of_le_length (by omega), List.drop_of_length_le (by omega), List.nil_append]
  have e5 : zs.take (n + 1) = zs.take n ++ [zs[n]] := List.take_succ_eq_append_getElem hn
  rw [e1, e3, e4, e5]
  simp only [leastR]
  rw [e2]
  rfl
theorem least_done (N : List QC → Nat) (zs : List QC) : leastR N (zs.take zs.length) (zs.drop zs.length) = zs := by
  rw [List.take_length, List.drop_length]; rfl
theorem least_QN {p : Int} {us : List QC} {s : List Cl} (h : us.map (·.2) = s) : (leastR (QN p) [] us).map (·.2) = leastR (storyN p) [] s := by
  rw [← h]
  exact least_map (fun q : QC => q.2) (storyN p) us []
end Go.Proofs.Ythiabicleedleaa
